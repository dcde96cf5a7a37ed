/-
  The document's list: an entry is pushed (tokens without attributes). The document's list: Push and Mark, with all beside it.
-/
import Derived.Test.YtkakncngkmoegaaGreatYXKg
import Derived.Test.YtkakncngkmoegaaGreatXGu
import Derived.Test.YtkakncngkmoegaaGreatTZbd
namespace Go.Proofs.YtkakncngkmoegaaGreat
open Go.RowKit Go.Sort

def alikeQ (ks : List Key) (a b : Int) : Bool := match keyAt ks a, keyAt ks b with
  | some p, some q => p.name.toList == q.name.toList && p.space == q.space
  | _, _ => false
/-- From the end on, up to a marker: how many are alike, and the first of them. -/
def scanQ (ks : List Key) (ns : List Int) (id : Int) : Nat → Int → Int → Int × Int
  | 0, n, f => (n, f)
  | i + 1, n, f => if (ns[i]?).getD (-1) = -1 then (n, f) else if alikeQ ks ((ns[i]?).getD (-1)) id = true then scanQ ks ns id i (n + 1) (i : Int) else scanQ ks ns id i n f
def lessQ (qs : List EntQ) (r : Int × Int) : List EntQ := if 3 ≤ r.1 then qs.take r.2.toNat ++ qs.drop (r.2.toNat + 1) else qs
def pushR (ks : List Key) (qs : List EntQ) (id : Int) : Int := if (elOf ks id).isSome = true then (if 0 ≤ findQ qs id then 1 else 0) else 6
def pushQ (ks : List Key) (qs : List EntQ) (id : Int) (t : TokM) : List EntQ := if pushR ks qs id = 0 then lessQ qs (scanQ ks (qs.map (·.node)) id qs.length 0 (-1)) ++ [⟨id, t, none, 0⟩] else qs
/-- Entries without attributes, markers or elements. -/
def QOk (ks : List Key) (qs : List EntQ) : Prop := ∀ x ∈ qs, x.tok.attrs = [] ∧ (x.node = -1 ∨ (keyAt ks x.node).isSome = true)
theorem scanQ_ok (ks : List Key) (ns : List Int) (id : Int) (m : Nat) : ∀ (g : Nat) (n f : Int), g ≤ m → (n = 0 ∨ ((g : Int) ≤ f ∧ f + n ≤ m ∧ 0 ≤ n)) → ((scanQ ks ns id g n f).1 = 0 ∨ (0 ≤ (scanQ ks ns id g n f).2 ∧ (scanQ ks ns id g n f).2 + (scanQ ks ns id g n f).1 ≤ m))
  | 0, n, f, _, h => by
    unfold scanQ
    rcases h with h | h
    · exact .inl h
    · exact .inr ⟨by omega, h.2.1⟩
  | g + 1, n, f, hg, h => by
    unfold scanQ
    split
    · rcases h with h | h
      · exact .inl h
      · exact .inr ⟨by omega, h.2.1⟩
    · split
      · refine scanQ_ok ks ns id m g (n + 1) (g : Int) (by omega) (.inr ⟨Int.le_refl _, ?_, ?_⟩)
        · rcases h with h | h <;> omega
        · rcases h with h | h <;> omega
      · refine scanQ_ok ks ns id m g n f (by omega) ?_
        rcases h with h | h
        · exact .inl h
        · exact .inr ⟨by omega, h.2⟩
theorem UpdQ.andThen {w w1 w2 : World} {base bQ bR : Nat} {qs1 qs2 : List EntQ} {F : Nat → Prop} (h : UpdQ F w w1 base bQ bR qs1) (h2 : ∀ v F', QlM w1 base bQ bR v qs1 → (∀ k, F' k ↔ footQ bQ v k) → UpdQ F' w1 w2 base bQ bR qs2) : UpdQ F w w2 base bQ bR qs2 := by
  obtain ⟨F', ⟨v, hq, hF'⟩, hm, hf⟩ := h
  obtain ⟨F2, hq2, hm2, hf2⟩ := h2 v F' hq hF'
  refine ⟨F2, hq2, ⟨hm2.os.trans hm.os, hm2.tape.trans hm.tape, hm2.output.trans hm.output, Nat.le_trans hm.size hm2.size, fun k hk hn => ?_⟩, fun k hk => ?_⟩
  · refine (hm2.block k (Nat.lt_of_lt_of_le hk hm.size) (fun e => ?_)).trans (hm.block k hk hn)
    rcases hf k e with e | e
    · exact hn e
    · omega
  · rcases hf2 k hk with e | e
    · exact hf k e
    · exact .inr (Nat.le_trans hm.size e)
theorem UpdQ.chain {w w1 w2 : World} {base bQ bR : Nat} {qs : List EntQ} {F F3 : Nat → Prop} (hm : Mod F w w1) (hf : ∀ k, F3 k → F k ∨ w.heap.size ≤ k) (h : UpdQ F3 w1 w2 base bQ bR qs) : UpdQ F w w2 base bQ bR qs := by
  obtain ⟨F2, hq2, hm2, hf2⟩ := h
  refine ⟨F2, hq2, ⟨hm2.os.trans hm.os, hm2.tape.trans hm.tape, hm2.output.trans hm.output, Nat.le_trans hm.size hm2.size, fun k hk hn => ?_⟩, fun k hk => ?_⟩
  · refine (hm2.block k (Nat.lt_of_lt_of_le hk hm.size) (fun e => ?_)).trans (hm.block k hk hn)
    rcases hf k e with e | e
    · exact hn e
    · omega
  · rcases hf2 k hk with e | e
    · exact hf k e
    · exact .inr (Nat.le_trans hm.size e)
theorem UpdQ.after {w w1 w2 : World} {base bQ bR : Nat} {qs : List EntQ} {F : Nat → Prop} (hb : Below w.heap.size w w1) (h : UpdQ F w1 w2 base bQ bR qs) : UpdQ F w w2 base bQ bR qs := by
  obtain ⟨F2, h1, h2, h3⟩ := h
  exact ⟨F2, h1, (Mod.of_below hb).trans h2, fun k hk => (h3 k hk).imp id (fun e => Nat.le_trans hb.size e)⟩
theorem qgrow {w w1 : World} {base bQ bR : Nat} {v v' : Value} {qs : List EntQ} {F : Nat → Prop} (h : QlM w base bQ bR v qs) (hF : ∀ k, F k ↔ footQ bQ v k) (x : EntQ) (hx : x.tok.attrs = [] ∧ x.a = none) {W1 : World} (hb : Below w.heap.size w W1) (hs : W1.heap.size = w.heap.size + 1) (hown : w1.ownsRow base 54 10 v' (qs.length + 1) (qRow qs ++ x.cells)) (hg : W1.grownBy w1 v.ownBlock) (hv : ∀ k, v'.ownBlock = some k → v.ownBlock = some k ∨ k = w.heap.size + 1) : UpdQ F w (w1.setCell ⟨bQ, 1, none⟩ v') base bQ bR (qs ++ [x]) ∧ w1.cell? ⟨bQ, 1, none⟩ = some v ∧ w1.frozen? ⟨bQ, 1, none⟩ = false := by
  have h2 := h.below hb
  have hm : Mod (fun k => v.ownBlock = some k) W1 w1 := Mod.grown hg (fun k e => e)
  have hbq := (hm.block bQ (lt_of_block h2.box) (fun e => by
    obtain ⟨cur, hc⟩ := ownsRow_block h2.own e
    rw [h2.box] at hc
    cases hc)).trans h2.box
  obtain ⟨F', u1, u2, u3⟩ := h2.grow hF x ⟨⟨fun i x' hi => by rw [hx.1] at hi; simp at hi⟩, fun b off e => by rw [hx.2] at e; cases e⟩ hown hg (fun k hk => (hv k hk).imp id (fun e => by omega))
  exact ⟨⟨F', u1, (Mod.of_below hb).trans u2, fun k hk => (u3 k hk).imp id (fun e => Nat.le_trans hb.size e)⟩, cell_of_row _ _ 1 _ _ _ hbq, by simp [World.frozen?, hbq]⟩
section
variable {w : World} {base bQ bR : Nat} {v : Value} {qs : List EntQ} {ks : List Key} {F FR : Nat → Prop}
set_option maxRecDepth 100000 in
set_option maxHeartbeats 4000000 in
theorem qpush_in (h : QlM w base bQ bR v qs) (hF : ∀ k, F k ↔ footQ bQ v k) (hr : RfK w base bR ks FR) (hl : qs.length < 100000) (hok : QOk ks qs) (id : Int) (t : TokM) (ht : t.attrs = []) (he : (elOf ks id).isSome = true) (hfi : findQ qs id < 0) : Calls Tryz.prog 33 #[.pointer (some ⟨bQ, 0, none⟩), .int .i64 id, .agg (t.cells (.slice none t.attrs.length 0)).toArray] w fun e w' => e = .returned (.int .i64 0) ∧ UpdQ F w w' base bQ bR (lessQ qs (scanQ ks (qs.map (·.node)) id qs.length 0 (-1)) ++ [⟨id, t, none, 0⟩]) := by
  have HEL := hide (fun W (hb : Below w.heap.size w W) => rElement_any (hr.below hb) id)
  rw [he] at HEL
  have HFI := hide (fun W (hb : Below w.heap.size w W) => qfind_any (h.below hb) (by omega) id)
  have hfi2 : decide (0 ≤ findQ qs id) = false := by simp; omega
  have hfi3 : ¬ 0 ≤ findQ qs id := by omega
  obtain ⟨c0, c1, f1⟩ := h.cells
  have HKC := hide (fun W (hb : Below w.heap.size w W) => And.intro (cell_kept hb c0) (cell_kept hb c1))
  obtain ⟨R, hR⟩ : ∃ R, scanQ ks (qs.map (·.node)) id qs.length 0 (-1) = R := ⟨_, rfl⟩
  have HRO := hide (scanQ_ok ks (qs.map (·.node)) id qs.length qs.length 0 (-1) (Nat.le_refl _) (.inl rfl))
  rw [hR] at HRO ⊢
  have HR := hide hR
  obtain ⟨t0, t1, t2, t3, t4, t5, t6, t7, ta⟩ := t
  simp only at ht
  subst ht
  simp only [TokM.cells, List.length_nil]
  have HEK := hide (Ek.start w (.cells #[.int .i64 t0, .string t1, .string t2, .string t3, .int .i64 t4, .bool t5, .int .i32 t6, .bool t7, .slice none 0 0] 52) (.cells #[.int .i64 id, .int .i64 t0, .string t1, .string t2, .string t3, .int .i64 t4, .bool t5, .int .i32 t6, .bool t7, .slice none 0 0] 54))
  obtain ⟨k0, k1⟩ := (unhide HKC) _ (below_newAc w (.cells #[.int .i64 t0, .string t1, .string t2, .string t3, .int .i64 t4, .bool t5, .int .i32 t6, .bool t7, .slice none 0 0] 52))
  obtain ⟨k2, k3⟩ := (unhide HKC) _ (unhide HEK).bel
  obtain ⟨va, vc, rfl⟩ := own_val h.own
  have HH := hide (And.intro h hF)
  have HRR := hide hr
  obtain ⟨ti, hi0, hz0, hz1, hz2⟩ := info_parts Tryz.info54
  have HOK := hide hok
  clear h hF hr hok c0 c1 f1
  go_enter Tryz.func33, Tryz.ntmps33
  go_wp2_with (first
    | (go_at_call 76; refine ((unhide HEL) _ (below_newAc _ _)).mono ?_; rintro e w1 ⟨rfl, rfl⟩)
    | (go_at_call 42; refine ((unhide HFI) _ (below_newAc _ _)).mono ?_; rintro e w2 ⟨rfl, rfl⟩))
  go_loopg [8, 9, 10] qs.length (fun g s8 s9 s10 wr => ∃ n f : Int, s8 = .int .i64 n ∧ s9 = .int .i64 f ∧ s10 = .int .i64 ((g : Int) - 1) ∧ g ≤ qs.length ∧ Ek w (.cells #[.int .i64 t0, .string t1, .string t2, .string t3, .int .i64 t4, .bool t5, .int .i32 t6, .bool t7, .slice none 0 0] 52) (.cells #[.int .i64 id, .int .i64 t0, .string t1, .string t2, .string t3, .int .i64 t4, .bool t5, .int .i32 t6, .bool t7, .slice none 0 0] 54) wr ∧ 0 ≤ n ∧ n + g ≤ qs.length ∧ scanQ ks (qs.map (·.node)) id g n f = R)
  case atStart => exact ⟨0, -1, rfl, rfl, rfl, Nat.le_refl _, unhide HEK, Int.le_refl _, by omega, unhide HR⟩
  case round =>
    obtain ⟨n, f, rfl, rfl, rfl, hg, hek, hn0, hng, hsc⟩ := hrel
    clear k0 k1 k2 k3 HEK HR HEL HFI
    cases gk with
    | zero =>
      unfold scanQ at hsc
      subst hsc
      have hz : ¬ (0 : Int) ≤ ((0 : Nat) : Int) - 1 := by omega
      have HWR := hide hek.bel
      have hy := hek.y
      obtain ⟨b0, b1, b2, b3, b4, b5, b6, b7, b8, b9, _⟩ := ten hy
      obtain ⟨z0, z1⟩ := (unhide HKC) _ hek.bel
      have HY := hide hy
      have HHW := hide ((unhide HH).1.below hek.bel)
      clear hek hy
      by_cases h3 : 3 ≤ n
      · have hro := unhide HRO
        obtain ⟨kf, rfl, hkf⟩ : ∃ kf : Nat, f = (kf : Int) ∧ kf + 1 < qs.length := by
          rcases hro with h0 | h0
          · simp only at h0; omega
          · simp only at h0
            exact ⟨f.toNat, by omega, by omega⟩
        have h3b : decide (3 ≤ n) = true := by simpa using h3
        have HRM := hide (qremove_in (unhide HHW) (unhide HH).2 (by omega) kf hkf)
        have HLS : Hid (lessQ qs (n, (kf : Int)) = qs.take kf ++ qs.drop (kf + 1)) := hide (by unfold lessQ; rw [if_pos h3]; rfl)
        have HLEN : Hid ((qs.take kf ++ qs.drop (kf + 1)).length + 1 ≤ 1000000) := hide (by simp; omega)
        have HYL : Hid (∀ k, F k → k < w.heap.size) := hide (fun k hk => ((unhide HH).1.lt (((unhide HH).2 k).1 hk)).2)
        clear hro hkf h3
        generalize qs.take kf ++ qs.drop (kf + 1) = ps at HRM HLS HLEN
        go_wp2_with (first
          | (go_at_call 80; refine (unhide HRM).mono ?_; rintro e w3 ⟨rfl, hu3⟩; obtain ⟨F3, ⟨v3, hq3, hF3⟩, hm3, hf3⟩ := hu3; have HM3 := hide (And.intro hm3 hf3); obtain ⟨va3, vc3, rfl⟩ := own_val hq3.own; obtain ⟨y0, y1, yf⟩ := hq3.cells; have hy3 := (hm3.block _ (lt_of_block (unhide HY)) (fun e => by have := (unhide HYL) _ e; omega)).trans (unhide HY); clear b0 b1 b2 b3 b4 b5 b6 b7 b8 b9 z0 z1; obtain ⟨b0, b1, b2, b3, b4, b5, b6, b7, b8, b9, _⟩ := ten hy3; have yf1 := yf 1; have HQ3 := hide (And.intro hq3 hF3); have HOW := hide (fun (o : Obj) => hq3.own.alloc o); have HBB := hide (Nat.le_trans hq3.lo (Nat.le_of_lt (lt_of_block hq3.box))); have HNW : Hid (∀ (j : Nat) (u : Value), [.int .i64 id, .int .i64 t0, .string t1, .string t2, .string t3, .int .i64 t4, .bool t5, .int .i32 t6, .bool t7, .slice none 0 0][j]? = some u → (w3.alloc (.cells [.int .i64 id, .int .i64 t0, .string t1, .string t2, .string t3, .int .i64 t4, .bool t5, .int .i32 t6, .bool t7, .slice none 0 0].toArray 54)).cell? ((⟨w3.heap.size, 0, none⟩ : Addr).add j) = some u) := hide (World.news_of_block (w := w3.alloc (.cells [.int .i64 id, .int .i64 t0, .string t1, .string t2, .string t3, .int .i64 t4, .bool t5, .int .i32 t6, .bool t7, .slice none 0 0].toArray 54)) (B := w3.heap.size) (t := 54) (fr := (0, 0)) (heap_alloc_new w3 _)); have k9 := cell_kept (below_newAc w3 (.cells #[.int .i64 id, .int .i64 t0, .string t1, .string t2, .string t3, .int .i64 t4, .bool t5, .int .i32 t6, .bool t7, .slice none 0 0] 54)) y1; clear hq3 hF3 hm3 hf3 yf hy3))
        go_region_law ((refine step_append_lies _ (by rfl) _ _ 102 (by rfl) base 54 ti _ 10 112 (by kernel_rfl) hi0 hz0 hz1 hz2 rfl (by omega) (.slice va3 ps.length vc3) ps.length (qRow ps) (by rfl) (by first | exact own_drew ((unhide HOW) _) | exact (unhide HOW) _) ⟨w3.heap.size, 0, none⟩ 1 1 [.int .i64 id, .int .i64 t0, .string t1, .string t2, .string t3, .int .i64 t4, .bool t5, .int .i32 t6, .bool t7, .slice none 0 0] (by rfl) (by rfl) (by first | exact (fun j u hj => cell_drew ((unhide HNW) j u hj)) | exact unhide HNW) (by simp [Value.oneCell']) (by omega) (by have := unhide HLEN; unfold maxLen; omega) (by have := unhide HLEN; omega) (by have := unhide HBB; simp; omega) (w3.heap.size + 1) (by simp) ?_; intro g' cap' w4 hown4 hgrow4 hat4 hltg4; obtain ⟨hu, d1, d2⟩ := qgrow (unhide HQ3).1 (unhide HQ3).2 ⟨id, ⟨t0, t1, t2, t3, t4, t5, t6, t7, []⟩, none, 0⟩ ⟨rfl, rfl⟩ (by first | exact (below_newAc _ _).drew | exact below_newAc _ _) (by simp) hown4 hgrow4 (fun k e => by simp only [Value.ownBlock, Option.some.injEq] at e; subst e; exact hat4); have HU := hide hu; clear hown4 hgrow4 hat4 hltg4 hu))
        all_goals go_wp2
        all_goals go_ret
        all_goals refine ⟨rfl, UpdQ.after (unhide HWR) (UpdQ.chain (unhide HM3).1 (unhide HM3).2 ?_)⟩
        all_goals rw [unhide HLS]
        all_goals exact unhide HU
      · have h3b : decide (3 ≤ n) = false := by simpa using h3
        have HLS : Hid (lessQ qs (n, f) = qs) := hide (by unfold lessQ; rw [if_neg h3])
        have HLEN : Hid (qs.length + 1 ≤ 1000000) := hide (by omega)
        have HQ3 := hide (And.intro (unhide HHW) (unhide HH).2)
        have HOW := hide (fun (o : Obj) => (unhide HHW).own.alloc o)
        have HBB := hide (Nat.le_trans (unhide HHW).lo (Nat.le_of_lt (lt_of_block (unhide HHW).box)))
        have yf1 := (unhide HHW).cells.2.2 1
        have HNW : Hid (∀ (j : Nat) (u : Value), [.int .i64 id, .int .i64 t0, .string t1, .string t2, .string t3, .int .i64 t4, .bool t5, .int .i32 t6, .bool t7, .slice none 0 0][j]? = some u → (wr.alloc (.cells [.int .i64 id, .int .i64 t0, .string t1, .string t2, .string t3, .int .i64 t4, .bool t5, .int .i32 t6, .bool t7, .slice none 0 0].toArray 54)).cell? ((⟨wr.heap.size, 0, none⟩ : Addr).add j) = some u) := hide (World.news_of_block (w := wr.alloc (.cells [.int .i64 id, .int .i64 t0, .string t1, .string t2, .string t3, .int .i64 t4, .bool t5, .int .i32 t6, .bool t7, .slice none 0 0].toArray 54)) (B := wr.heap.size) (t := 54) (fr := (0, 0)) (heap_alloc_new wr _))
        have k9 := cell_kept (below_newAc wr (.cells #[.int .i64 id, .int .i64 t0, .string t1, .string t2, .string t3, .int .i64 t4, .bool t5, .int .i32 t6, .bool t7, .slice none 0 0] 54)) z1
        go_wp2
        go_region_law ((refine step_append_lies _ (by rfl) _ _ 102 (by rfl) base 54 ti _ 10 112 (by kernel_rfl) hi0 hz0 hz1 hz2 rfl (by omega) (.slice va qs.length vc) qs.length (qRow qs) (by rfl) (by first | exact own_drew ((unhide HOW) _) | exact (unhide HOW) _) ⟨wr.heap.size, 0, none⟩ 1 1 [.int .i64 id, .int .i64 t0, .string t1, .string t2, .string t3, .int .i64 t4, .bool t5, .int .i32 t6, .bool t7, .slice none 0 0] (by rfl) (by rfl) (by first | exact (fun j u hj => cell_drew ((unhide HNW) j u hj)) | exact unhide HNW) (by simp [Value.oneCell']) (by omega) (by have := unhide HLEN; unfold maxLen; omega) (by have := unhide HLEN; omega) (by have := unhide HBB; simp; omega) (wr.heap.size + 1) (by simp) ?_; intro g' cap' w4 hown4 hgrow4 hat4 hltg4; obtain ⟨hu, d1, d2⟩ := qgrow (unhide HQ3).1 (unhide HQ3).2 ⟨id, ⟨t0, t1, t2, t3, t4, t5, t6, t7, []⟩, none, 0⟩ ⟨rfl, rfl⟩ (by first | exact (below_newAc _ _).drew | exact below_newAc _ _) (by simp) hown4 hgrow4 (fun k e => by simp only [Value.ownBlock, Option.some.injEq] at e; subst e; exact hat4); have HU := hide hu; clear hown4 hgrow4 hat4 hltg4 hu))
        all_goals go_wp2
        all_goals go_ret
        all_goals refine ⟨rfl, UpdQ.after (unhide HWR) ?_⟩
        all_goals rw [unhide HLS]
        all_goals exact unhide HU
    | succ g =>
      obtain ⟨y, hy⟩ : ∃ y, qs[g]? = some y := ⟨_, List.getElem?_eq_getElem (by omega)⟩
      have hns : ((qs.map (·.node))[g]?).getD (-1) = y.node := by rw [List.getElem?_map, hy]; rfl
      have hyo := (unhide HOK) y (List.mem_of_getElem? hy)
      obtain ⟨gb, gcap, hgv, hgc⟩ := ((unhide HH).1.below hek.bel).at hy
      simp only [Value.slice.injEq] at hgv
      obtain ⟨rfl, _, rfl⟩ := hgv
      have e1 : (((g + 1 : Nat) : Int) - 1) = (g : Int) := by omega
      rw [e1]
      have hgz : (g : Int) < (qs.length : Int) := by omega
      have hg0 : (0 : Int) ≤ (g : Int) := by omega
      have hgw : IntKind.i64.wrap ((g : Int) - 1) = (g : Int) - 1 := by rw [IntKind.wrap_i64]; omega
      have hnw : IntKind.i64.wrap (n + 1) = n + 1 := by rw [IntKind.wrap_i64]; omega
      unfold scanQ at hsc
      rw [hns] at hsc
      obtain ⟨yn, ⟨u0, u1, u2, u3, u4, u5, u6, u7, ua⟩, yad, ycp⟩ := y
      simp only at hyo hsc
      obtain ⟨rfl, hyn⟩ := hyo
      have q0 := hgc 0 (by omega)
      have q1 := hgc 1 (by omega)
      have q2 := hgc 2 (by omega)
      have q3 := hgc 3 (by omega)
      have q4 := hgc 4 (by omega)
      have q5 := hgc 5 (by omega)
      have q6 := hgc 6 (by omega)
      have q7 := hgc 7 (by omega)
      have q8 := hgc 8 (by omega)
      have q9 := hgc 9 (by omega)
      simp only [EntQ.cells, EntQ.av, TokM.cells, List.getElem?_cons_zero, List.getElem?_cons_succ, List.length_nil, Nat.add_zero] at q0 q1 q2 q3 q4 q5 q6 q7 q8 q9
      clear hy hns hgc e1
      by_cases hy1 : yn = -1
      · rw [if_pos hy1] at hsc
        subst hsc
        have hy2 : (yn != -1) = false := by simpa using hy1
        have HQQ := hide (And.intro q0 hy2)
        clear q1 q2 q3 q4 q5 q6 q7 q8 q9 hyn
        have HWR := hide hek.bel
        have hy := hek.y
        obtain ⟨b0, b1, b2, b3, b4, b5, b6, b7, b8, b9, _⟩ := ten hy
        obtain ⟨z0, z1⟩ := (unhide HKC) _ hek.bel
        have HY := hide hy
        have HHW := hide ((unhide HH).1.below hek.bel)
        clear hek hy
        by_cases h3 : 3 ≤ n
        · have hro := unhide HRO
          obtain ⟨kf, rfl, hkf⟩ : ∃ kf : Nat, f = (kf : Int) ∧ kf + 1 < qs.length := by
            rcases hro with h0 | h0
            · simp only at h0; omega
            · simp only at h0
              exact ⟨f.toNat, by omega, by omega⟩
          have h3b : decide (3 ≤ n) = true := by simpa using h3
          have HRM := hide (qremove_in (unhide HHW) (unhide HH).2 (by omega) kf hkf)
          have HLS : Hid (lessQ qs (n, (kf : Int)) = qs.take kf ++ qs.drop (kf + 1)) := hide (by unfold lessQ; rw [if_pos h3]; rfl)
          have HLEN : Hid ((qs.take kf ++ qs.drop (kf + 1)).length + 1 ≤ 1000000) := hide (by simp; omega)
          have HYL : Hid (∀ k, F k → k < w.heap.size) := hide (fun k hk => ((unhide HH).1.lt (((unhide HH).2 k).1 hk)).2)
          clear hro hkf h3
          generalize qs.take kf ++ qs.drop (kf + 1) = ps at HRM HLS HLEN
          go_wp2_with (first
            | (go_at_call 80; refine (unhide HRM).mono ?_; rintro e w3 ⟨rfl, hu3⟩; obtain ⟨F3, ⟨v3, hq3, hF3⟩, hm3, hf3⟩ := hu3; have HM3 := hide (And.intro hm3 hf3); obtain ⟨va3, vc3, rfl⟩ := own_val hq3.own; obtain ⟨y0, y1, yf⟩ := hq3.cells; have hy3 := (hm3.block _ (lt_of_block (unhide HY)) (fun e => by have := (unhide HYL) _ e; omega)).trans (unhide HY); clear b0 b1 b2 b3 b4 b5 b6 b7 b8 b9 z0 z1; obtain ⟨b0, b1, b2, b3, b4, b5, b6, b7, b8, b9, _⟩ := ten hy3; have yf1 := yf 1; have HQ3 := hide (And.intro hq3 hF3); have HOW := hide (fun (o : Obj) => hq3.own.alloc o); have HBB := hide (Nat.le_trans hq3.lo (Nat.le_of_lt (lt_of_block hq3.box))); have HNW : Hid (∀ (j : Nat) (u : Value), [.int .i64 id, .int .i64 t0, .string t1, .string t2, .string t3, .int .i64 t4, .bool t5, .int .i32 t6, .bool t7, .slice none 0 0][j]? = some u → (w3.alloc (.cells [.int .i64 id, .int .i64 t0, .string t1, .string t2, .string t3, .int .i64 t4, .bool t5, .int .i32 t6, .bool t7, .slice none 0 0].toArray 54)).cell? ((⟨w3.heap.size, 0, none⟩ : Addr).add j) = some u) := hide (World.news_of_block (w := w3.alloc (.cells [.int .i64 id, .int .i64 t0, .string t1, .string t2, .string t3, .int .i64 t4, .bool t5, .int .i32 t6, .bool t7, .slice none 0 0].toArray 54)) (B := w3.heap.size) (t := 54) (fr := (0, 0)) (heap_alloc_new w3 _)); have k9 := cell_kept (below_newAc w3 (.cells #[.int .i64 id, .int .i64 t0, .string t1, .string t2, .string t3, .int .i64 t4, .bool t5, .int .i32 t6, .bool t7, .slice none 0 0] 54)) y1; clear hq3 hF3 hm3 hf3 yf hy3))
          go_region_law ((refine step_append_lies _ (by rfl) _ _ 102 (by rfl) base 54 ti _ 10 112 (by kernel_rfl) hi0 hz0 hz1 hz2 rfl (by omega) (.slice va3 ps.length vc3) ps.length (qRow ps) (by rfl) (by first | exact own_drew ((unhide HOW) _) | exact (unhide HOW) _) ⟨w3.heap.size, 0, none⟩ 1 1 [.int .i64 id, .int .i64 t0, .string t1, .string t2, .string t3, .int .i64 t4, .bool t5, .int .i32 t6, .bool t7, .slice none 0 0] (by rfl) (by rfl) (by first | exact (fun j u hj => cell_drew ((unhide HNW) j u hj)) | exact unhide HNW) (by simp [Value.oneCell']) (by omega) (by have := unhide HLEN; unfold maxLen; omega) (by have := unhide HLEN; omega) (by have := unhide HBB; simp; omega) (w3.heap.size + 1) (by simp) ?_; intro g' cap' w4 hown4 hgrow4 hat4 hltg4; obtain ⟨hu, d1, d2⟩ := qgrow (unhide HQ3).1 (unhide HQ3).2 ⟨id, ⟨t0, t1, t2, t3, t4, t5, t6, t7, []⟩, none, 0⟩ ⟨rfl, rfl⟩ (by first | exact (below_newAc _ _).drew | exact below_newAc _ _) (by simp) hown4 hgrow4 (fun k e => by simp only [Value.ownBlock, Option.some.injEq] at e; subst e; exact hat4); have HU := hide hu; clear hown4 hgrow4 hat4 hltg4 hu))
          all_goals go_wp2
          all_goals go_ret
          all_goals refine ⟨rfl, UpdQ.after (unhide HWR) (UpdQ.chain (unhide HM3).1 (unhide HM3).2 ?_)⟩
          all_goals rw [unhide HLS]
          all_goals exact unhide HU
        · have h3b : decide (3 ≤ n) = false := by simpa using h3
          have HLS : Hid (lessQ qs (n, f) = qs) := hide (by unfold lessQ; rw [if_neg h3])
          have HLEN : Hid (qs.length + 1 ≤ 1000000) := hide (by omega)
          have HQ3 := hide (And.intro (unhide HHW) (unhide HH).2)
          have HOW := hide (fun (o : Obj) => (unhide HHW).own.alloc o)
          have HBB := hide (Nat.le_trans (unhide HHW).lo (Nat.le_of_lt (lt_of_block (unhide HHW).box)))
          have yf1 := (unhide HHW).cells.2.2 1
          have HNW : Hid (∀ (j : Nat) (u : Value), [.int .i64 id, .int .i64 t0, .string t1, .string t2, .string t3, .int .i64 t4, .bool t5, .int .i32 t6, .bool t7, .slice none 0 0][j]? = some u → (wr.alloc (.cells [.int .i64 id, .int .i64 t0, .string t1, .string t2, .string t3, .int .i64 t4, .bool t5, .int .i32 t6, .bool t7, .slice none 0 0].toArray 54)).cell? ((⟨wr.heap.size, 0, none⟩ : Addr).add j) = some u) := hide (World.news_of_block (w := wr.alloc (.cells [.int .i64 id, .int .i64 t0, .string t1, .string t2, .string t3, .int .i64 t4, .bool t5, .int .i32 t6, .bool t7, .slice none 0 0].toArray 54)) (B := wr.heap.size) (t := 54) (fr := (0, 0)) (heap_alloc_new wr _))
          have k9 := cell_kept (below_newAc wr (.cells #[.int .i64 id, .int .i64 t0, .string t1, .string t2, .string t3, .int .i64 t4, .bool t5, .int .i32 t6, .bool t7, .slice none 0 0] 54)) z1
          go_wp2
          go_region_law ((refine step_append_lies _ (by rfl) _ _ 102 (by rfl) base 54 ti _ 10 112 (by kernel_rfl) hi0 hz0 hz1 hz2 rfl (by omega) (.slice (some ⟨gb, 0, none⟩) qs.length vc) qs.length (qRow qs) (by rfl) (by first | exact own_drew ((unhide HOW) _) | exact (unhide HOW) _) ⟨wr.heap.size, 0, none⟩ 1 1 [.int .i64 id, .int .i64 t0, .string t1, .string t2, .string t3, .int .i64 t4, .bool t5, .int .i32 t6, .bool t7, .slice none 0 0] (by rfl) (by rfl) (by first | exact (fun j u hj => cell_drew ((unhide HNW) j u hj)) | exact unhide HNW) (by simp [Value.oneCell']) (by omega) (by have := unhide HLEN; unfold maxLen; omega) (by have := unhide HLEN; omega) (by have := unhide HBB; simp; omega) (wr.heap.size + 1) (by simp) ?_; intro g' cap' w4 hown4 hgrow4 hat4 hltg4; obtain ⟨hu, d1, d2⟩ := qgrow (unhide HQ3).1 (unhide HQ3).2 ⟨id, ⟨t0, t1, t2, t3, t4, t5, t6, t7, []⟩, none, 0⟩ ⟨rfl, rfl⟩ (by first | exact (below_newAc _ _).drew | exact below_newAc _ _) (by simp) hown4 hgrow4 (fun k e => by simp only [Value.ownBlock, Option.some.injEq] at e; subst e; exact hat4); have HU := hide hu; clear hown4 hgrow4 hat4 hltg4 hu))
          all_goals go_wp2
          all_goals go_ret
          all_goals refine ⟨rfl, UpdQ.after (unhide HWR) ?_⟩
          all_goals rw [unhide HLS]
          all_goals exact unhide HU
      · rw [if_neg hy1] at hsc
        have hy2 : (yn != -1) = true := by simpa using hy1
        obtain ⟨pk, hpk⟩ : ∃ pk, keyAt ks yn = some pk := by
          rcases hyn with e | e
          · exact absurd e hy1
          · exact Option.isSome_iff_exists.1 e
        obtain ⟨qk, hqk⟩ : ∃ qk, keyAt ks id = some qk := by
          have := elOf_nat he
          obtain ⟨ii, rfl, hii⟩ := this
          exact ⟨ks[ii], by simp [keyAt, hii]⟩
        obtain ⟨ii, hii, hpi⟩ := keyAt_some hpk
        obtain ⟨jj, hjj, hqj⟩ := keyAt_some hqk
        have hal : alikeQ ks yn id = (pk.name.toList == qk.name.toList && pk.space == qk.space) := by unfold alikeQ; rw [hpk, hqk]
        rw [hal] at hsc
        have HAL := hide (fun W (hW : Ek w (.cells #[.int .i64 t0, .string t1, .string t2, .string t3, .int .i64 t4, .bool t5, .int .i32 t6, .bool t7, .slice none 0 0] 52) (.cells #[.int .i64 id, .int .i64 t0, .string t1, .string t2, .string t3, .int .i64 t4, .bool t5, .int .i32 t6, .bool t7, .slice none 0 0] 54) W) => qalike_nil ((unhide HRR).below hW.bel) ((unhide HKC) _ hW.bel).1 ⟨yn, ⟨u0, u1, u2, u3, u4, u5, u6, u7, []⟩, yad, ycp⟩ ⟨id, ⟨t0, t1, t2, t3, t4, t5, t6, t7, []⟩, none, 0⟩ rfl rfl hii hjj hpi hqj)
        simp only [EntQ.cells, EntQ.av, TokM.cells, List.length_nil] at HAL
        obtain ⟨b0, b1, b2, b3, b4, b5, b6, b7, b8, b9, _⟩ := ten hek.y
        obtain ⟨z0, z1⟩ := (unhide HKC) _ hek.bel
        have HEKW := hide hek
        clear hal hpk hqk hii hjj hpi hqj hek hyn hy1
        cases hcc : (pk.name.toList == qk.name.toList && pk.space == qk.space) with
        | true =>
          rw [hcc, if_pos rfl] at hsc
          rw [hcc] at HAL
          have HSC := hide hsc
          clear hcc hsc
          go_wp2
          go_region_with (first
            | (go_at_call 79; refine ((unhide HAL) _ (by first | exact unhide HEKW | exact (unhide HEKW).drew)).mono ?_; rintro e w3 ⟨rfl, hb3⟩; have HE3 : Hid (Ek w (.cells #[.int .i64 t0, .string t1, .string t2, .string t3, .int .i64 t4, .bool t5, .int .i32 t6, .bool t7, .slice none 0 0] 52) (.cells #[.int .i64 id, .int .i64 t0, .string t1, .string t2, .string t3, .int .i64 t4, .bool t5, .int .i32 t6, .bool t7, .slice none 0 0] 54) w3) := hide (by first | exact (unhide HEKW).more hb3 | exact (unhide HEKW).drew.more hb3); clear hb3))
          all_goals go_wp2
          all_goals go_roundg g
          all_goals (first | exact Nat.lt_succ_self _ | exact ⟨n + 1, (g : Int), rfl, rfl, rfl, by omega, unhide HE3, by omega, by omega, unhide HSC⟩)
        | false =>
          rw [hcc, if_neg (by simp)] at hsc
          rw [hcc] at HAL
          have HSC := hide hsc
          clear hcc hsc
          go_wp2
          go_region_with (first
            | (go_at_call 79; refine ((unhide HAL) _ (by first | exact unhide HEKW | exact (unhide HEKW).drew)).mono ?_; rintro e w3 ⟨rfl, hb3⟩; have HE3 : Hid (Ek w (.cells #[.int .i64 t0, .string t1, .string t2, .string t3, .int .i64 t4, .bool t5, .int .i32 t6, .bool t7, .slice none 0 0] 52) (.cells #[.int .i64 id, .int .i64 t0, .string t1, .string t2, .string t3, .int .i64 t4, .bool t5, .int .i32 t6, .bool t7, .slice none 0 0] 54) w3) := hide (by first | exact (unhide HEKW).more hb3 | exact (unhide HEKW).drew.more hb3); clear hb3))
          all_goals go_wp2
          all_goals go_roundg g
          all_goals (first | exact Nat.lt_succ_self _ | exact ⟨n, f, rfl, rfl, rfl, by omega, unhide HE3, by omega, by omega, unhide HSC⟩)
end
end Go.Proofs.YtkakncngkmoegaaGreat

namespace Go.Proofs.YtkakncngkmoegaaGreat
open Go.RowKit Go.Sort

section
variable {w : World} {base bQ bR : Nat} {v : Value} {qs : List EntQ} {ks : List Key} {F FR : Nat → Prop}
theorem QlM.same (h : QlM w base bQ bR v qs) (hF : ∀ k, F k ↔ footQ bQ v k) {w' : World} (hb : Below w.heap.size w w') : UpdQ F w w' base bQ bR qs := ⟨F, ⟨v, h.below hb, hF⟩, Mod.of_below hb, fun _ hk => .inl hk⟩
set_option maxHeartbeats 2000000 in
theorem qpush_any (h : QlM w base bQ bR v qs) (hF : ∀ k, F k ↔ footQ bQ v k) (hr : RfK w base bR ks FR) (hl : qs.length < 100000) (hok : QOk ks qs) (id : Int) (t : TokM) (ht : t.attrs = []) : Calls Tryz.prog 33 #[.pointer (some ⟨bQ, 0, none⟩), .int .i64 id, .agg (t.cells (.slice none t.attrs.length 0)).toArray] w fun e w' => e = .returned (.int .i64 (pushR ks qs id)) ∧ UpdQ F w w' base bQ bR (pushQ ks qs id t) := by
  unfold pushQ
  cases he : (elOf ks id).isSome with
  | false =>
    have e6 : pushR ks qs id = 6 := by unfold pushR; rw [he]; rfl
    rw [e6, if_neg (by decide)]
    have HEL := hide (fun W (hb : Below w.heap.size w W) => rElement_any (hr.below hb) id)
    rw [he] at HEL
    have HS := hide (fun w' (hb : Below w.heap.size w w') => h.same hF hb)
    have c0 := h.cells.1
    obtain ⟨t0, t1, t2, t3, t4, t5, t6, t7, ta⟩ := t
    simp only at ht
    subst ht
    simp only [TokM.cells, List.length_nil]
    have k0 := cell_kept (below_newAc w (.cells #[.int .i64 t0, .string t1, .string t2, .string t3, .int .i64 t4, .bool t5, .int .i32 t6, .bool t7, .slice none 0 0] 52)) c0
    clear h hF hr hl hok he e6
    go_enter Tryz.func33, Tryz.ntmps33
    go_wp2_with (first
      | (go_at_call 76; refine ((unhide HEL) _ (below_newAc _ _)).mono ?_; rintro e w1 ⟨rfl, rfl⟩))
    go_ret
    exact ⟨rfl, (unhide HS) _ (below_newAc _ _)⟩
  | true =>
    by_cases hf : 0 ≤ findQ qs id
    · have e1 : pushR ks qs id = 1 := by unfold pushR; rw [he, if_pos rfl, if_pos hf]
      rw [e1, if_neg (by decide)]
      have HEL := hide (fun W (hb : Below w.heap.size w W) => rElement_any (hr.below hb) id)
      rw [he] at HEL
      have HFI := hide (fun W (hb : Below w.heap.size w W) => qfind_any (h.below hb) (by omega) id)
      have HS := hide (fun w' (hb : Below w.heap.size w w') => h.same hF hb)
      have c0 := h.cells.1
      obtain ⟨t0, t1, t2, t3, t4, t5, t6, t7, ta⟩ := t
      simp only at ht
      subst ht
      simp only [TokM.cells, List.length_nil]
      have k0 := cell_kept (below_newAc w (.cells #[.int .i64 t0, .string t1, .string t2, .string t3, .int .i64 t4, .bool t5, .int .i32 t6, .bool t7, .slice none 0 0] 52)) c0
      clear h hF hr hl hok he e1
      generalize findQ qs id = fq at *
      go_enter Tryz.func33, Tryz.ntmps33
      go_wp2_with (first
        | (go_at_call 76; refine ((unhide HEL) _ (below_newAc _ _)).mono ?_; rintro e w1 ⟨rfl, rfl⟩)
        | (go_at_call 42; refine ((unhide HFI) _ (below_newAc _ _)).mono ?_; rintro e w2 ⟨rfl, rfl⟩))
      go_ret
      exact ⟨rfl, (unhide HS) _ (below_newAc _ _)⟩
    · have e0 : pushR ks qs id = 0 := by unfold pushR; rw [he, if_pos rfl, if_neg hf]
      rw [e0, if_pos rfl]
      exact qpush_in h hF hr hl hok id t ht he (by omega)
end
section
variable {w wx : World} {obs : List (Ob w.heap.size)} {i j bQ bR : Nat} {qs : List EntQ} {os : List OneM}
theorem aqpush_any (h : Env w wx obs) (hi : obs[i]? = some (rO _ bR os)) (hj : obs[j]? = some (qOb w bQ bR qs)) (hl : qs.length < 100000) (hok : QOk (keysO os) qs) (id : Int) (t : TokM) (ht : t.attrs = []) : Calls Tryz.prog 33 #[.pointer (some ⟨bQ, 0, none⟩), .int .i64 id, .agg (t.cells (.slice none t.attrs.length 0)).toArray] wx fun e w' => e = .returned (.int .i64 (pushR (keysO os) qs id)) ∧ Env w w' (obs.set j (qOb w bQ bR (pushQ (keysO os) qs id t))) := by
  obtain ⟨FR, hr, _⟩ := h.r hi
  obtain ⟨F, v, hq, hF, hk⟩ := h.q hj
  exact (qpush_any hq hF (⟨os, hr, rfl⟩ : RfK wx w.heap.size bR (keysO os) FR) hl hok id t ht).mono fun _ _ ⟨a, b⟩ => ⟨a, hk _ _ b⟩
theorem aqmark_any (h : Env w wx obs) (hj : obs[j]? = some (qOb w bQ bR qs)) (hl : qs.length < 100000) : Calls Tryz.prog 32 #[.pointer (some ⟨bQ, 0, none⟩)] wx fun e w' => e = .returned (.tuple #[]) ∧ Env w w' (obs.set j (qOb w bQ bR (qs ++ [markQ]))) := by
  obtain ⟨F, v, hq, hF, hk⟩ := h.q hj
  exact (qmark_any hq hF (by omega)).mono fun _ _ ⟨a, b⟩ => ⟨a, hk _ _ b⟩
end
-- plain
theorem QOk.nil (ks : List Key) : QOk ks [] := fun x hx => by simp at hx
theorem QOk.grow {ks ms : List Key} {qs : List EntQ} (h : QOk ks qs) : QOk (ks ++ ms) qs := fun x hx => ⟨(h x hx).1, (h x hx).2.imp id (fun e => by
  obtain ⟨q, hq⟩ := Option.isSome_iff_exists.1 e
  rw [keyAt_grow hq]
  rfl)⟩
theorem QOk.mark {ks : List Key} {qs : List EntQ} (h : QOk ks qs) : QOk ks (qs ++ [markQ]) := fun x hx => by
  rcases List.mem_append.1 hx with e | e
  · exact h x e
  · simp at e; subst e; exact ⟨rfl, .inl rfl⟩
theorem lessQ_mem {qs : List EntQ} {r : Int × Int} : ∀ x ∈ lessQ qs r, x ∈ qs := by
  intro x hx
  unfold lessQ at hx
  split at hx
  · rcases List.mem_append.1 hx with e | e
    · exact List.mem_of_mem_take e
    · exact List.mem_of_mem_drop e
  · exact hx
theorem lessQ_len (qs : List EntQ) (r : Int × Int) : (lessQ qs r).length ≤ qs.length := by
  unfold lessQ
  split
  · simp only [List.length_append, List.length_take, List.length_drop]; omega
  · exact Nat.le_refl _
theorem QOk.push {ks : List Key} {qs : List EntQ} (h : QOk ks qs) (id : Int) (t : TokM) (ht : t.attrs = []) : QOk ks (pushQ ks qs id t) ∧ (pushQ ks qs id t).length ≤ qs.length + 1 := by
  unfold pushQ
  split
  · rename_i e
    refine ⟨fun x hx => ?_, ?_⟩
    · rcases List.mem_append.1 hx with e1 | e1
      · exact h x (lessQ_mem x e1)
      · simp at e1
        subst e1
        refine ⟨ht, .inr ?_⟩
        unfold pushR at e
        split at e
        · rename_i he
          simp only
          cases hk : keyAt ks id with
          | none => rw [elOf_none hk] at he; cases he
          | some q => rfl
        · cases e
    · rw [List.length_append]
      have := lessQ_len qs (scanQ ks (qs.map (·.node)) id qs.length 0 (-1))
      simp
      omega
  · exact ⟨h, by omega⟩
end Go.Proofs.YtkakncngkmoegaaGreat
