/-
  Package active: a row of entries in memory; its size, what stands at a place, one put in, the first ones left. Package active: a row of entries: the first ones left, one taken out, the last marker.
-/
import Derived.Test.YtkakncngkmoegaaGreatSZax
import Derived.Laws.CopyOwn
import Derived.Deep.AppendLies
import Derived.Deep.RegionLaw
import Derived.Lib.SliceRun
namespace Go.Proofs.YtkakncngkmoegaaGreat
open Go.RowKit Go.Sort

def ptrV (b : Nat) : Value := .pointer (some ⟨b, 0, none⟩)
def ptrs (ps : List Nat) : List Value := ps.map ptrV
theorem ptrs_len (ps : List Nat) : (ptrs ps).length = ps.length := by simp [ptrs]
theorem ptrs_one (ps : List Nat) : ∀ v ∈ ptrs ps, v.oneCell' = true := by
  intro v hv
  obtain ⟨b, _, rfl⟩ := List.mem_map.1 hv
  rfl
theorem ptrs_get {ps : List Nat} {i b : Nat} (h : ps[i]? = some b) : (ptrs ps)[i]? = some (ptrV b) := by simp [ptrs, h]

/-- The row at bW: its list of entries' places is v. -/
structure RowMAc (w : World) (base bW : Nat) (F : Nat → Prop) (v : Value) (ps : List Nat) (es : List EntM) : Prop where
  box : w.heap[bW]? = some (.cells #[v] 143 (0, 0))
  own : w.ownsRow base 120 1 v ps.length (ptrs ps)
  len : ps.length = es.length
  nodup : ps.Nodup
  ents : ∀ (i b : Nat) (x : EntM), ps[i]? = some b → es[i]? = some x → EntIn w F b x
  fb : F bW
  fv : ∀ k, v.ownBlock = some k → F k
  lt : ∀ k, F k → base ≤ k ∧ k < w.heap.size

def RowS (w : World) (base bW : Nat) (es : List EntM) (F : Nat → Prop) : Prop := ∃ v ps, RowMAc w base bW F v ps es
def UpdWAc (F : Nat → Prop) (w w' : World) (base bW : Nat) (es : List EntM) : Prop := ∃ F', RowS w' base bW es F' ∧ Mod F w w' ∧ ∀ k, F' k → F k ∨ w.heap.size ≤ k

section
variable {w w' : World} {base bW : Nat} {F G : Nat → Prop} {v : Value} {ps : List Nat} {es : List EntM}
theorem RowMAc.mod (h : RowMAc w base bW F v ps es) (hm : Mod G w w') (hG : ∀ k, F k → ¬ G k) : RowMAc w' base bW F v ps es :=
  ⟨(hm.block bW (lt_of_block h.box) (hG _ h.fb)).trans h.box, ownsRow_kept h.own (fun k hk => hm.block k (h.lt k (h.fv k hk)).2 (hG k (h.fv k hk))), h.len, h.nodup,
    fun i b x hb hx => (h.ents i b x hb hx).mod hm hG, h.fb, h.fv, fun k hk => ⟨(h.lt k hk).1, Nat.lt_of_lt_of_le (h.lt k hk).2 hm.size⟩⟩
theorem RowMAc.below (h : RowMAc w base bW F v ps es) (hb : Below w.heap.size w w') : RowMAc w' base bW F v ps es := h.mod (Mod.of_below (F := fun _ => False) hb) (fun _ _ e => e)
/-- More blocks than it has. -/
theorem RowMAc.wide (h : RowMAc w base bW F v ps es) (hF : ∀ k, F k → G k) (hG : ∀ k, G k → base ≤ k ∧ k < w.heap.size) : RowMAc w base bW G v ps es :=
  ⟨h.box, h.own, h.len, h.nodup, fun i b x hb hx => (h.ents i b x hb hx).wide hF, hF _ h.fb, fun k hk => hF k (h.fv k hk), hG⟩
theorem RowMAc.vne (h : RowMAc w base bW F v ps es) : v.ownBlock ≠ some bW := by
  intro e
  obtain ⟨cur, hc⟩ := ownsRow_block h.own e
  rw [h.box] at hc
  cases hc
theorem RowMAc.val (h : RowMAc w base bW F v ps es) : (v = .slice none 0 0 ∧ ps = []) ∨ ∃ g cap, v = .slice (some ⟨g, 0, none⟩) ps.length cap := by
  rcases h.own.2 with ⟨e, h0⟩ | ⟨g, cap, _, e, _⟩
  · exact .inl ⟨e, List.eq_nil_of_length_eq_zero h0⟩
  · exact .inr ⟨g, cap, e⟩
theorem RowMAc.cell (h : RowMAc w base bW F v ps es) : w.cell? ⟨bW, 0, none⟩ = some v := cell_of_one h.box
theorem RowMAc.free (h : RowMAc w base bW F v ps es) : w.frozen? ⟨bW, 0, none⟩ = false := free_of_one h.box
/-- What stands at a place. -/
theorem RowMAc.at (h : RowMAc w base bW F v ps es) {i : Nat} {x : EntM} (hi : es[i]? = some x) : ∃ g cap b, v = .slice (some ⟨g, 0, none⟩) es.length cap ∧ w.cell? ⟨g, i, none⟩ = some (ptrV b) ∧ ps[i]? = some b ∧ EntIn w F b x := by
  have hlt := (List.getElem?_eq_some_iff.1 hi).1
  obtain ⟨b, hb⟩ : ∃ b, ps[i]? = some b := ⟨_, List.getElem?_eq_getElem (by rw [h.len]; exact hlt)⟩
  rcases h.val with ⟨_, h0⟩ | ⟨g, cap, e⟩
  · subst h0; simp at hb
  · have h9 := h.own
    rw [e] at h9
    have hc := h9.cellAt i (by rw [h.len]; omega)
    rw [ptrs_get hb] at hc
    rw [h.len] at e
    exact ⟨g, cap, b, e, hc, hb, h.ents i b x hb hi⟩

theorem rsize_any (h : RowMAc w base bW F v ps es) : Calls Tryz.prog 54 #[.pointer (some ⟨bW, 0, none⟩)] w fun e w' => e = .returned (.int .i64 es.length) ∧ w = w' := by
  have hc := h.cell
  rw [← h.len]
  rcases h.val with ⟨rfl, rfl⟩ | ⟨g, cap, rfl⟩
  · clear h
    go_enter Tryz.func54, Tryz.ntmps54
    go_wp2
    go_ret
    exact ⟨rfl, rfl⟩
  · clear h
    go_enter Tryz.func54, Tryz.ntmps54
    go_wp2
    go_ret
    exact ⟨rfl, rfl⟩
theorem rat_any (h : RowMAc w base bW F v ps es) {i : Nat} {x : EntM} (hi : es[i]? = some x) : Calls Tryz.prog 55 #[.pointer (some ⟨bW, 0, none⟩), .int .i64 i] w fun e w' => ∃ b, e = .returned (ptrV b) ∧ ps[i]? = some b ∧ EntIn w F b x ∧ w = w' := by
  obtain ⟨g, cap, b, rfl, hg, hb, he⟩ := h.at hi
  have hc := h.cell
  have hlt : (i : Int) < (es.length : Int) := by have := (List.getElem?_eq_some_iff.1 hi).1; omega
  have hi0 : (0 : Int) ≤ (i : Int) := by omega
  have HB := hide hb
  have HE := hide he
  unfold ptrV at *
  clear h hi hb he
  go_enter Tryz.func55, Tryz.ntmps55
  go_wp2
  go_ret
  exact ⟨b, rfl, unhide HB, unhide HE, rfl⟩
end

/-- copy within a block, as one step of a region. -/
theorem step_copy_in {P : Program} {ops : Array Oper} {o : Oper} {a : Act} {w : World} {K : Act → World → Prop} {Q : Exit → Act → World → Prop} {E : Prop} (hgd : o.guard = none) (d s : Operand) (dT sT : TypeId)
    (ho : o.op = .call { callee := .builtin .copy, args := #[d, s], argTypes := #[dT, sT] }) (elem : TypeId) (hu : P.underlying dT = some (.slice elem)) (hsz : (P.info? elem).map (·.size) = some 1)
    (dp sp : Option Addr) (dLen dCap sLen sCap : Nat) (hd : a.eval d = .slice dp dLen dCap) (hs : a.eval s = .slice sp sLen sCap)
    (g off : Nat) (cur : List Value) (t : TypeId) (hg : w.heap[g]? = some (.cells cur.toArray t (0, 0))) (cs : List Value) (hn : cs.length = Nat.min sLen dLen)
    (hpos : 0 < cs.length → dp = some ⟨g, off, none⟩ ∧ ∃ ad, sp = some ad ∧ ∀ j v, cs[j]? = some v → w.cell? (ad.add j) = some v)
    (hfit : off + cs.length ≤ cur.length) (h1 : ∀ v ∈ cs, v.oneCell' = true)
    (h : ∀ w', Hid (w'.heap[g]? = some (.cells (splice cur off cs).toArray t (0, 0))) → w.grownBy w' (some g) → K (a.put o.dst (goInt cs.length)) w') :
    if Region.wanted o (yielded ops a.tmps) = true then Oper.wp P o a w K Q else E := by
  have hw : Region.wanted o (yielded ops a.tmps) = true := by simp [Region.wanted, hgd]
  rw [if_pos hw]
  by_cases h0 : cs.length = 0
  · obtain rfl : cs = [] := List.eq_nil_of_length_eq_zero h0
    have hrun := run_copy_none (P := P) w dT sT o.type elem dp sp dLen dCap sLen sCap hu hsz (by simpa using hn.symm)
    unfold Oper.wp
    simp [execOp, ho, resolve, invoke, builtin, hd, hs, hrun, Result.andThen]
    exact h w (show _ = _ by simpa [splice] using hg) ⟨rfl, rfl, rfl, Nat.le_refl _, fun _ _ _ => rfl⟩
  · obtain ⟨rfl, ad, rfl, hsrc⟩ := hpos (by omega)
    have hrun := run_copy_row (P := P) w dT sT o.type elem g off dLen dCap ad sLen sCap cur.toArray t cs hu hsz hg hn hsrc (by simpa using hfit) h1
    unfold Oper.wp
    simp [execOp, ho, resolve, invoke, builtin, hd, hs, hrun, Result.andThen]
    exact h _ (show _ = _ by simpa [splice] using setRow_heap w g _ _ t _ hg) ⟨rfl, rfl, rfl, by simp, fun k _ hk => setRow_other w g k _ (fun e => hk (by simp [e]))⟩

theorem one_ptr (w : World) (b : Nat) (t : TypeId) (B : Nat) (hB : w.heap.size = B) : ∀ j u, [ptrV b][j]? = some u → (w.alloc (.cells #[.pointer (some ⟨b, 0, none⟩)] t)).cell? ((⟨B, 0, none⟩ : Addr).add j) = some u := by
  subst hB
  intro j u hu
  exact World.news_of_block (heap_alloc_new w _) j u hu

theorem put_list {cur : List Value} {ps : List Nat} {bx i : Nat} (hc : cur.take (ps.length + 1) = ptrs ps ++ [ptrV bx]) (hi : i ≤ ps.length) :
    ((splice cur (i + 1) (ptrs (ps.drop i))).set i (ptrV bx)).take (ps.length + 1) = ptrs (ps.take i ++ bx :: ps.drop i) := by
  have hl : ps.length + 1 ≤ cur.length := by
    have := congrArg List.length hc
    simp [ptrs_len] at this
    omega
  have e1 : cur.take i = ptrs (ps.take i) := by
    have : cur.take i = (cur.take (ps.length + 1)).take i := by rw [List.take_take, Nat.min_eq_left (by omega)]
    rw [this, hc, List.take_append_of_le_length (by rw [ptrs_len]; exact hi)]
    simp [ptrs]
  have e2 : (cur.take (i + 1)).set i (ptrV bx) = cur.take i ++ [ptrV bx] := by
    rw [List.take_succ_eq_append_getElem (by omega)]
    rw [List.set_append_right _ _ (by simp; omega)]
    have e9 : i - (List.take i cur).length = 0 := by simp; omega
    rw [e9]
    rfl
  have e3 : (ptrs (ps.drop i)).length = ps.length - i := by rw [ptrs_len, List.length_drop]
  unfold splice
  have e4 : (ptrs (ps.drop i) ++ cur.drop (i + 1 + (ptrs (ps.drop i)).length)).take (ps.length - i) = ptrs (ps.drop i) := by
    rw [List.take_append_of_le_length (by omega), List.take_of_length_le (by omega)]
  have e5 : (cur.take i ++ [ptrV bx]).length = i + 1 := by simp; omega
  rw [List.set_append_left _ _ (by simp; omega), e2, List.take_append, List.take_of_length_le (by rw [e5]; omega), e5, show ps.length + 1 - (i + 1) = ps.length - i by omega, e4, e1]
  simp [ptrs]

theorem own_cur {w : World} {base g n cap : Nat} {xs : List Value} (h : w.ownsRow base 120 1 (.slice (some ⟨g, 0, none⟩) n cap) n xs) :
    ∃ cur : List Value, w.heap[g]? = some (.cells cur.toArray 120 (0, 0)) ∧ cur.length = cap ∧ n ≤ cap ∧ cap ≤ maxLen ∧ cur.take n = xs ∧ base ≤ g := by
  rcases h.2 with ⟨e, _⟩ | ⟨g', cap', cur, e, hb, hg, h1, h2, h3, h4⟩
  · cases e
  · simp only [Value.slice.injEq, Option.some.injEq, Addr.mk.injEq, and_true, true_and] at e
    obtain ⟨rfl, rfl⟩ := e
    exact ⟨cur.toList, hg, by simpa using h3, h1, h2, by simpa using h4, hb⟩

theorem mod_then {F G : Nat → Prop} {a b c : World} (h : Mod F a b) (k : Mod G b c) (hG : ∀ i, G i → F i ∨ a.heap.size ≤ i) : Mod F a c :=
  ⟨k.os.trans h.os, k.tape.trans h.tape, k.output.trans h.output, Nat.le_trans h.size k.size, fun i hi hf => (k.block i (Nat.lt_of_lt_of_le hi h.size) (fun hg => (hG i hg).elim hf (fun h => by omega))).trans (h.block i hi hf)⟩
theorem mod_drew {F : Nat → Prop} (w : World) : Mod F w w.drew := ⟨rfl, rfl, rfl, Nat.le_refl _, fun _ _ _ => rfl⟩

theorem ins_get {α : Type} {l : List α} {i : Nat} (hi : i ≤ l.length) (x : α) (j : Nat) : (l.take i ++ x :: l.drop i)[j]? = if j < i then l[j]? else if j = i then some x else l[j - 1]? := by
  by_cases h1 : j < i
  · rw [if_pos h1, List.getElem?_append_left (by simp; omega), List.getElem?_take, if_pos h1]
  · rw [if_neg h1, List.getElem?_append_right (by simp; omega), List.length_take, Nat.min_eq_left hi]
    by_cases h2 : j = i
    · subst h2; simp
    · rw [if_neg h2]
      obtain ⟨m, hm⟩ : ∃ m, j - i = m + 1 := ⟨j - i - 1, by omega⟩
      rw [hm, List.getElem?_cons_succ, List.getElem?_drop]
      congr 1
      omega

/-- A row whose list of places was written anew, in its own block or in a new one. -/
theorem RowMAc.done {w w5 : World} {base bW : Nat} {F : Nat → Prop} {v : Value} {ps : List Nat} {es : List EntM} (h : RowMAc w base bW F v ps es) {g n cap : Nat} {ps5 : List Nat} {es5 : List EntM} (cur5 : List Value)
    (hat : v.ownBlock = some g ∨ w.heap.size ≤ g) (hbg : base ≤ g)
    (hbox : w5.heap[bW]? = some (.cells #[.slice (some ⟨g, 0, none⟩) n cap] 143 (0, 0))) (hg5 : w5.heap[g]? = some (.cells cur5.toArray 120 (0, 0))) (hcl : cur5.length = cap) (hn : n ≤ cap) (hcm : cap ≤ maxLen) (htk : cur5.take n = ptrs ps5) (hpn : ps5.length = n)
    (hM : Mod (fun k => k = bW ∨ k = g ∨ v.ownBlock = some k) w w5) (hlen : ps5.length = es5.length) (hnd : ps5.Nodup)
    (hents : ∀ (j b : Nat) (y : EntM), ps5[j]? = some b → es5[j]? = some y → EntIn w F b y) :
    UpdWAc F w w5 base bW es5 := by
  have hgn : g < w5.heap.size := lt_of_block hg5
  have key : ∀ (k : Nat) (cur : Array Value) (t : TypeId), w.heap[k]? = some (.cells cur t (0, 0)) → t ≠ 120 → t ≠ 143 → w5.heap[k]? = w.heap[k]? := by
    intro k cur t hk h1 h2
    refine hM.block k (lt_of_block hk) ?_
    have pt : v.ownBlock = some k → False := by
      intro e
      obtain ⟨c9, h9⟩ := ownsRow_block h.own e
      rw [h9] at hk
      simp at hk
      exact h1 hk.2.symm
    rintro (e | e | e)
    · subst e
      rw [h.box] at hk
      simp at hk
      exact h2 hk.2.symm
    · subst e
      rcases hat with e | e
      · exact pt e
      · have := lt_of_block hk; omega
    · exact pt e
  refine ⟨fun k => F k ∨ (w.heap.size ≤ k ∧ k < w5.heap.size), ⟨.slice (some ⟨g, 0, none⟩) n cap, ps5, hbox, ?_, hlen, hnd, fun j b y hb hy => ?_, .inl h.fb, fun k hk => ?_, fun k hk => ?_⟩, ?_, fun k hk => hk.imp id (fun e => e.1)⟩
  · rw [hpn]
    exact ⟨by rw [ptrs_len, hpn]; omega, .inr ⟨g, cap, cur5.toArray, rfl, hbg, hg5, hn, hcm, by simpa using hcl, by rw [Nat.mul_one]; exact htk⟩⟩
  · have he := hents j b y hb hy
    obtain ⟨_, _, _, _, h9, _⟩ := he.lies
    refine (he.keep (key b _ _ h9 (by decide) (by decide)) (fun k cur _ hc => key k cur _ hc (by decide) (by decide))).wide (fun k hk => .inl hk)
  · simp [Value.ownBlock] at hk
    subst hk
    rcases hat with e | e
    · exact .inl (h.fv _ e)
    · exact .inr ⟨e, hgn⟩
  · rcases hk with hk | hk
    · have := h.lt k hk; have := hM.size; omega
    · have := h.lt _ h.fb; omega
  · refine hM.mono (fun k hk e => ?_)
    rcases e with e | e | e
    · rw [e]; exact h.fb
    · subst e
      rcases hat with e | e
      · exact h.fv _ e
      · omega
    · exact h.fv _ e

set_option maxHeartbeats 2000000 in
theorem rput_any {w : World} {base bW : Nat} {F : Nat → Prop} {v : Value} {ps : List Nat} {es : List EntM} (h : RowMAc w base bW F v ps es) {bx : Nat} {x : EntM} (hx : EntIn w F bx x) (hnx : bx ∉ ps) (i : Nat) (hi : i ≤ es.length) (hl : es.length < 1000000000000) :
    Calls Tryz.prog 69 #[.pointer (some ⟨bW, 0, none⟩), .int .i64 i, ptrV bx] w fun e w' => e = .returned (.tuple #[]) ∧ UpdWAc F w w' base bW (es.take i ++ x :: es.drop i) := by
  have hc := h.cell
  have hf := h.free
  have hlt := lt_of_block h.box
  have HH := hide h
  have HX := hide hx
  have HNX := hide hnx
  have HI := hide hi
  have HL := hide hl
  have HLO : Hid (base ≤ w.heap.size) := hide (by have := h.lt _ h.fb; omega)
  have HPL : Hid (ps.length < 1000000000000) := hide (by rw [h.len]; exact hl)
  have hvne := h.vne
  have HV := hide hvne
  obtain ⟨i0, hi0, hz0, hz1, hz2⟩ := info_parts (show (Tryz.prog.info? 120).map (fun i => (i.zero, i.size, i.bytes)) = some (some (.pointer none), 1, 8) by kernel_rfl)
  clear h hx hnx hi hl hvne
  unfold ptrV
  go_enter Tryz.func69, Tryz.ntmps69
  go_wp2_with (at_builtin; go_must (refine wpList_append_lies _ (by rfl) _ _ 141 (by rfl) base 120 i0 _ 1 8 Tryz.underlying141 hi0 hz0 hz1 hz2 rfl (by omega) v ps.length (ptrs ps) (by rfl) (by exact (unhide HH).own.alloc _) ⟨w.heap.size, 0, none⟩ 1 1 [ptrV bx] (by rfl) rfl (by exact one_ptr w bx _ _ rfl) (by intro u hu; simp at hu; subst hu; rfl) (by omega) (by have := unhide HPL; unfold maxLen; omega) (by have := unhide HPL; omega) (by have := unhide HLO; simp; omega) (w.heap.size + 1) (by simp) ?_); intro g cap w1 hown hgrow hat hgl; have HOWN := hide hown; have HGR := hide hgrow; have HAT := hide hat; have hc1 : w1.cell? ⟨bW, 0, none⟩ = some v := (hgrow.cell_far ⟨bW, 0, none⟩ (by simp; omega) (fun e => (unhide HV) e.symm)).trans (Lib.cell?_alloc_some _ hc); have hf1 : w1.frozen? ⟨bW, 0, none⟩ = false := (hgrow.frozen_far ⟨bW, 0, none⟩ (by simp; omega) (fun e => (unhide HV) e.symm)).trans (by exact free_of_one ((Below.heap_alloc _ _ _ hlt).trans (unhide HH).box)); clear hown hgrow hat)
  obtain ⟨cur, hg1, hcl, hnc, hcm, htk, hbg⟩ := own_cur (unhide HOWN)
  have hgW : g ≠ bW := by
    intro e
    subst e
    rcases unhide HAT with e | e
    · exact (unhide HV) e
    · omega
  obtain ⟨W2, hW2⟩ : ∃ W2, w1.setCell ⟨bW, 0, none⟩ (.slice (some ⟨g, 0, none⟩) (ps.length + 1) cap) = W2 := ⟨_, rfl⟩
  have c2 : W2.cell? ⟨bW, 0, none⟩ = some (.slice (some ⟨g, 0, none⟩) (ps.length + 1) cap) := by rw [← hW2]; exact World.cell?_setCell_same' _ _ _ (by rw [hc1]; rfl)
  have g2 : W2.heap[g]? = some (.cells cur.toArray 120 (0, 0)) := by rw [← hW2]; exact (Below.heap_setCell _ _ _ _ hgW).trans hg1
  rw [hW2]
  have HW2 := hide hW2
  have HG2 := hide g2
  have HTK := hide htk
  have HCL := hide hcl
  have hiN := unhide HI
  rw [← (unhide HH).len] at hiN
  have hfin : ∀ w4, Hid (w4.heap[g]? = some (.cells (splice cur (i + 1) (ptrs (ps.drop i))).toArray 120 (0, 0))) → W2.drew.grownBy w4 (some g) →
      w4.cell? ⟨bW, 0, none⟩ = some (.slice (some ⟨g, 0, none⟩) (ps.length + 1) cap) ∧ (∃ u, w4.cell? ⟨g, i, none⟩ = some u ∧ w4.frozen? ⟨g, i, none⟩ = false) ∧ UpdWAc F w (w4.setCell ⟨g, i, none⟩ (.pointer (some ⟨bx, 0, none⟩))) base bW (es.take i ++ x :: es.drop i) := by
    intro w4 hg4 hb4
    have hg4 : w4.heap[g]? = some (.cells (splice cur (i + 1) (ptrs (ps.drop i))).toArray 120 (0, 0)) := hg4
    have H := unhide HH
    have hsl : (splice cur (i + 1) (ptrs (ps.drop i))).length = cap := by rw [length_splice _ _ _ (by rw [ptrs_len, List.length_drop]; omega)]; exact hcl
    have hW2b : bW < W2.heap.size := World.block_lt_of_cell? W2 ⟨bW, 0, none⟩ c2
    have b2 : W2.heap[bW]? = some (.cells #[.slice (some ⟨g, 0, none⟩) (ps.length + 1) cap] 143 (0, 0)) := by
      have b1 : w1.heap[bW]? = some (.cells #[v] 143 (0, 0)) := ((unhide HGR).block bW (by simp; omega) (fun e => (unhide HV) e.symm)).trans ((Below.heap_alloc _ _ _ hlt).trans H.box)
      rw [← hW2]
      exact heap_setCell_same w1 bW 0 _ _ _ b1
    have b4 : w4.heap[bW]? = _ := (hb4.block bW hW2b (fun e => hgW (by cases e; rfl))).trans b2
    refine ⟨cell_of_one b4, ⟨_, (cell_of_row _ g _ _ _ _ hg4).trans (by rw [List.getElem?_toArray]; exact List.getElem?_eq_getElem (by omega)), free_row hg4 _⟩, ?_⟩
    have h5 := heap_setCell_same w4 g i _ _ (.pointer (some ⟨bx, 0, none⟩)) hg4
    rw [List.setIfInBounds_toArray] at h5
    have M1 : Mod (fun k => k = bW ∨ k = g ∨ v.ownBlock = some k) w w1 := (Mod.alloc w _).trans (Mod.grown (unhide HGR) (fun k hk => .inr (.inr hk)))
    have M2 : Mod (fun k => k = bW ∨ k = g ∨ v.ownBlock = some k) w w4 := by
      refine (M1.trans ?_).trans (Mod.grown hb4 (fun k hk => .inr (.inl (by cases hk; rfl))))
      rw [← hW2]
      exact (Mod.setCell _ _ _ (.inl rfl)).trans (mod_drew _)
    have hps := H.len
    have hil : i ≤ ps.length := by have := unhide HI; omega
    refine H.done (g := g) (n := ps.length + 1) (cap := cap) (ps5 := ps.take i ++ bx :: ps.drop i) ((splice cur (i + 1) (ptrs (ps.drop i))).set i (ptrV bx)) ?_ hbg ((Below.heap_setCell _ _ _ _ (fun e => hgW e.symm)).trans b4) h5 (by rw [List.length_set]; exact hsl) hnc hcm (put_list htk hil) (by simp; omega) (M2.trans (Mod.setCell _ _ _ (.inr (.inl rfl)))) (by simp; omega) ?_ ?_
    · rcases unhide HAT with e | e
      · exact .inl e
      · exact .inr (by omega)
    · rw [List.perm_middle.nodup_iff, List.take_append_drop]
      exact List.nodup_cons.2 ⟨unhide HNX, H.nodup⟩
    · intro j b y hb hy
      rw [ins_get hil] at hb
      rw [ins_get (unhide HI)] at hy
      by_cases h1 : j < i
      · rw [if_pos h1] at hb hy
        exact H.ents j b y hb hy
      · rw [if_neg h1] at hb hy
        by_cases h2 : j = i
        · rw [if_pos h2] at hb hy
          cases hb; cases hy
          exact unhide HX
        · rw [if_neg h2] at hb hy
          exact H.ents _ b y hb hy
  have HFIN := hide hfin
  clear hfin
  have hu9 : Tryz.prog.underlying 141 = some (.slice 120) := Tryz.underlying141
  have hsz9 : (Tryz.prog.info? 120).map (·.size) = some 1 := by kernel_rfl
  have hcz : (ps.length : Int) + 1 ≤ (cap : Int) := by omega
  have hcmz : (cap : Int) ≤ 9223372036854775807 := by unfold maxLen at hcm; omega
  have hiz : (i : Int) ≤ (ps.length : Int) := by omega
  have hi0z : (0 : Int) ≤ (i : Int) := by omega
  have hit : ((i : Int) + 1).toNat = i + 1 := by omega
  have hile : (i : Int) ≤ (ps.length : Int) + 1 := by omega
  have hi1z : (0 : Int) ≤ (i : Int) + 1 := by omega
  have hwr : IntKind.i64.wrap ((i : Int) + 1) = (i : Int) + 1 := by rw [IntKind.wrap_i64]; have := unhide HPL; omega
  clear hc hf hW2 g2 htk hcl hnc hcm hg1 hc1 hf1
  by_cases hin : i < ps.length
  · have hinz : (i : Int) < (ps.length : Int) := by omega
    have hcne : ¬ cap = i + 1 := by omega
    have hcne2 : ¬ cap = i := by omega
    have HMIN : Hid ((ptrs (ps.drop i)).length = Nat.min (ps.length + 1 - i) (ps.length - i)) := hide (by rw [ptrs_len, List.length_drop]; exact (Nat.min_eq_right (by omega)).symm)
    have HPOS : Hid (0 < (ptrs (ps.drop i)).length → (some (⟨g, i + 1, none⟩ : Addr)) = some ⟨g, i + 1, none⟩ ∧ ∃ ad, (some (⟨g, i, none⟩ : Addr)) = some ad ∧ ∀ j v, (ptrs (ps.drop i))[j]? = some v → W2.cell? (ad.add j) = some v) := hide (fun _ => ⟨rfl, _, rfl, fun j v hv => by
      have hadd : (⟨g, i, none⟩ : Addr).add j = ⟨g, i + j, none⟩ := by unfold Addr.add; split <;> simp_all
      rw [hadd, cell_of_row _ g _ _ _ _ (unhide HG2), List.getElem?_toArray]
      have h9 : (cur.take (ps.length + 1))[i + j]? = some v := by
        rw [unhide HTK, List.getElem?_append_left (by have := (List.getElem?_eq_some_iff.1 hv).1; rw [ptrs_len, List.length_drop] at this; rw [ptrs_len]; omega)]
        simp only [ptrs, List.map_drop, List.getElem?_drop] at hv ⊢
        exact hv
      rw [List.getElem?_take] at h9
      split at h9
      · exact h9
      · cases h9⟩)
    go_region_law (refine step_copy_in rfl (.tmp 22) (.tmp 28) 141 141 rfl 120 hu9 hsz9 (some ⟨g, i + 1, none⟩) (some ⟨g, i, none⟩) (ps.length - i) (cap - (i + 1)) (ps.length + 1 - i) (cap - i) (by rfl) (by rfl) g (i + 1) cur 120 (by exact unhide HG2) (ptrs (ps.drop i)) (by exact unhide HMIN) (by exact unhide HPOS) (by have := unhide HCL; rw [ptrs_len, List.length_drop]; omega) (ptrs_one _) ?_; intro w4 hg4 hb4)
    all_goals obtain ⟨f1, f2, f3⟩ := (unhide HFIN) w4 hg4 hb4
    all_goals obtain ⟨u9, hu9⟩ := f2
    all_goals have HF3 := hide f3
    all_goals clear f3 hg4 hb4
    all_goals go_wp2
    all_goals go_end0
    all_goals exact ⟨rfl, unhide HF3⟩
  · obtain rfl : i = ps.length := by omega
    have HNIL : Hid (ptrs (ps.drop ps.length) = []) := hide (by simp [ptrs])
    rw [unhide HNIL] at HFIN
    by_cases hcp : cap = ps.length + 1
    · subst hcp
      go_region_law (refine step_copy_in rfl (.tmp 22) (.tmp 28) 141 141 rfl 120 hu9 hsz9 (some ⟨g, 0, none⟩) (some ⟨g, ps.length, none⟩) 0 0 1 1 (by rfl) (by rfl) g (ps.length + 1) cur 120 (by exact unhide HG2) [] rfl (fun h => by simp at h) (by have := unhide HCL; simp; omega) (fun v h => by simp at h) ?_; intro w4 hg4 hb4)
      all_goals obtain ⟨f1, f2, f3⟩ := (unhide HFIN) w4 hg4 hb4
      all_goals obtain ⟨u9, hu9⟩ := f2
      all_goals have HF3 := hide f3
      all_goals clear f3 hg4 hb4
      all_goals go_wp2
      all_goals go_end0
      all_goals exact ⟨rfl, unhide HF3⟩
    · have hcp2 : ¬ cap = ps.length := by omega
      go_region_law (refine step_copy_in rfl (.tmp 22) (.tmp 28) 141 141 rfl 120 hu9 hsz9 (some ⟨g, ps.length + 1, none⟩) (some ⟨g, ps.length, none⟩) 0 (cap - (ps.length + 1)) 1 (cap - ps.length) (by rfl) (by rfl) g (ps.length + 1) cur 120 (by exact unhide HG2) [] rfl (fun h => by simp at h) (by have := unhide HCL; simp; omega) (fun v h => by simp at h) ?_; intro w4 hg4 hb4)
      all_goals obtain ⟨f1, f2, f3⟩ := (unhide HFIN) w4 hg4 hb4
      all_goals obtain ⟨u9, hu9⟩ := f2
      all_goals have HF3 := hide f3
      all_goals clear f3 hg4 hb4
      all_goals go_wp2
      all_goals go_end0
      all_goals exact ⟨rfl, unhide HF3⟩
end Go.Proofs.YtkakncngkmoegaaGreat

namespace Go.Proofs.YtkakncngkmoegaaGreat
open Go.RowKit Go.Sort

/-- The places from the n-th on are cleared. -/
theorem clear_ptrs {w : World} {g : Nat} {cur : List Value} (hg : w.heap[g]? = some (.cells cur.toArray 120 (0, 0))) (n m cp : Nat) (hm : 0 < m) (hf : n + m ≤ cur.length) (ty : TypeId) :
    ∃ w', (Builtin.clear_ #[141] ty #[.slice (some ⟨g, n, none⟩) m cp]).run Tryz.prog w = .ok (.tuple #[]) w' ∧ (∃ cur' : List Value, w'.heap[g]? = some (.cells cur'.toArray 120 (0, 0)) ∧ cur'.length = cur.length ∧ cur'.take n = cur.take n) ∧ Mod (fun k => k = g) w w' := by
  have hc : ∀ j, j < m → (w.cell? ⟨g, n + j, none⟩).isSome = true := by
    intro j hj
    rw [cell_of_row w g _ _ _ _ hg, List.getElem?_toArray, List.getElem?_eq_getElem (by omega)]; rfl
  have hr := Lib.run_clear_slice (P := Tryz.prog) w 141 120 ty (.pointer none) Tryz.underlying141 Tryz.zeroValue120 rfl rfl g n m cp hm hc (fun j _ => free_row hg _)
  refine ⟨_, hr, ?_, run_mod (F := fun k => k = g) g rfl _ _ _⟩
  obtain ⟨cur', h1, h2⟩ := run_block g (List.replicate m (.pointer none)) n w _ _ hg
  refine ⟨cur'.toList, h1, by simpa using h2, ?_⟩
  apply List.ext_getElem?
  intro j
  rw [List.getElem?_take, List.getElem?_take]
  by_cases hj : j < n
  · rw [if_pos hj, if_pos hj]
    have e1 := cell_of_row _ g j _ _ _ h1
    rw [World.cell?_setCells_out g _ _ _ _ (fun _ _ => .inl (by simp; omega)), cell_of_row w g _ _ _ _ hg, List.getElem?_toArray] at e1
    simpa using e1.symm
  · rw [if_neg hj, if_neg hj]

section
variable {w : World} {base bW : Nat} {F : Nat → Prop} {v : Value} {ps : List Nat} {es : List EntM}

theorem take_sub {l : List Nat} (h : l.Nodup) (n : Nat) : (l.take n).Nodup := h.sublist (List.take_sublist _ _)
theorem ptrs_take (ps : List Nat) (n : Nat) : (ptrs ps).take n = ptrs (ps.take n) := by simp [ptrs]

theorem clear_none (w : World) (ty : TypeId) (c : Nat) : (Builtin.clear_ #[141] ty #[.slice none 0 c]).run Tryz.prog w = .ok (.tuple #[]) w := by
  simp [Builtin.clear_, run_underlying Tryz.underlying141]
theorem clear_zero (w : World) (ty : TypeId) (a : Addr) (c : Nat) : (Builtin.clear_ #[141] ty #[.slice (some a) 0 c]).run Tryz.prog w = .ok (.tuple #[]) w := by
  simp [Builtin.clear_, run_underlying Tryz.underlying141]

set_option maxRecDepth 10000 in
set_option maxHeartbeats 2000000 in
/-- A row of N places, of which the first n are left. -/
theorem rcut_raw {g N cap : Nat} {cur : List Value} (hbox : w.heap[bW]? = some (.cells #[.slice (some ⟨g, 0, none⟩) N cap] 143 (0, 0))) (hg : w.heap[g]? = some (.cells cur.toArray 120 (0, 0))) (hcl : cur.length = cap) (hnc : N ≤ cap) (hcm : cap ≤ maxLen) (n : Nat) (hn : n ≤ N) :
    Calls Tryz.prog 117 #[.pointer (some ⟨bW, 0, none⟩), .int .i64 n] w fun e w' => e = .returned (.tuple #[]) ∧ ∃ cur' : List Value, w'.heap[g]? = some (.cells cur'.toArray 120 (0, 0)) ∧ cur'.length = cap ∧ cur'.take n = cur.take n ∧ w'.heap[bW]? = some (.cells #[.slice (some ⟨g, 0, none⟩) n cap] 143 (0, 0)) ∧ Mod (fun k => k = bW ∨ k = g) w w' := by
  have hc := cell_of_one hbox
  have hf := free_of_one hbox
  have hgW : g ≠ bW := by
    intro e
    subst e
    rw [hbox] at hg
    cases hg
  have hnz : (n : Int) ≤ (N : Int) := by omega
  have hn0 : (0 : Int) ≤ (n : Int) := by omega
  have hcz : (N : Int) ≤ (cap : Int) := by omega
  have hcmz : (cap : Int) ≤ 9223372036854775807 := by unfold maxLen at hcm; omega
  have hncz : (n : Int) ≤ (cap : Int) := by omega
  have hcell : ∀ (w1 : World) (cur' : List Value), w1.heap[g]? = some (.cells cur'.toArray 120 (0, 0)) → cur'.length = cur.length → cur'.take n = cur.take n → Mod (fun k => k = g) w w1 →
      w1.cell? ⟨bW, 0, none⟩ = some (.slice (some ⟨g, 0, none⟩) N cap) ∧ w1.frozen? ⟨bW, 0, none⟩ = false ∧ ∃ cur2 : List Value, (w1.setCell ⟨bW, 0, none⟩ (.slice (some ⟨g, 0, none⟩) n cap)).heap[g]? = some (.cells cur2.toArray 120 (0, 0)) ∧ cur2.length = cap ∧ cur2.take n = cur.take n ∧ (w1.setCell ⟨bW, 0, none⟩ (.slice (some ⟨g, 0, none⟩) n cap)).heap[bW]? = some (.cells #[.slice (some ⟨g, 0, none⟩) n cap] 143 (0, 0)) ∧ Mod (fun k => k = bW ∨ k = g) w (w1.setCell ⟨bW, 0, none⟩ (.slice (some ⟨g, 0, none⟩) n cap)) := by
    intro w1 cur' h1 h2 h3 h4
    have b1 : w1.heap[bW]? = _ := (h4.block bW (lt_of_block hbox) (fun e => hgW e.symm)).trans hbox
    exact ⟨cell_of_one b1, free_of_one b1, cur', (Below.heap_setCell _ _ _ _ hgW).trans h1, h2.trans hcl, h3, heap_setCell_same w1 bW 0 _ _ _ b1, (h4.mono (fun k _ e => .inr e)).trans (Mod.setCell _ _ _ (.inl rfl))⟩
  have HK := hide hcell
  have HG := hide hg
  have HCL := hide hcl
  clear hcell hg hcl hcm hbox
  by_cases he : n = N
  · subst he
    obtain ⟨c1, f1, u1⟩ := (unhide HK) w cur (unhide HG) rfl rfl (Mod.refl _ _)
    have HU := hide u1
    clear u1
    by_cases hcp : cap = n
    · subst hcp
      have hz := clear_zero w 0 ⟨g, 0, none⟩ 0
      go_enter Tryz.func117, Tryz.ntmps117
      go_wp2
      go_end0
      exact ⟨rfl, unhide HU⟩
    · have hz := clear_zero w 0 ⟨g, n, none⟩ (cap - n)
      go_enter Tryz.func117, Tryz.ntmps117
      go_wp2
      go_end0
      exact ⟨rfl, unhide HU⟩
  · have hcp : ¬ cap = n := by omega
    obtain ⟨w1, hrun, ⟨cur', h1, h2, h3⟩, h4⟩ := clear_ptrs (unhide HG) n (N - n) (cap - n) (by omega) (by have := unhide HCL; omega) 0
    obtain ⟨c1, f1, u1⟩ := (unhide HK) w1 cur' h1 h2 h3 h4
    have HU := hide u1
    clear u1 h1 h2 h3 h4
    go_enter Tryz.func117, Tryz.ntmps117
    go_wp2
    go_end0
    exact ⟨rfl, unhide HU⟩

set_option maxRecDepth 10000 in
set_option maxHeartbeats 2000000 in
theorem rcut_any (h : RowMAc w base bW F v ps es) (n : Nat) (hn : n ≤ es.length) :
    Calls Tryz.prog 117 #[.pointer (some ⟨bW, 0, none⟩), .int .i64 n] w fun e w' => e = .returned (.tuple #[]) ∧ UpdWAc F w w' base bW (es.take n) := by
  have hc := h.cell
  have hf := h.free
  have hlp := h.len
  rcases h.val with ⟨e, rfl⟩ | ⟨g, cap, e⟩
  · subst e
    obtain rfl : es = [] := List.eq_nil_of_length_eq_zero (by simpa using hlp.symm)
    obtain rfl : n = 0 := by simpa using hn
    have HS : Hid (∀ W, W.heap[bW]? = some (.cells #[.slice none 0 0] 143 (0, 0)) → Mod (fun k => k = bW) w W → UpdWAc F w W base bW []) := hide (fun W hb hm => by
      have h9 : RowMAc W base bW F (.slice none 0 0) [] [] := ⟨hb, World.ownsRow_nil _ _ _ _, rfl, List.nodup_nil, fun i b x e => by simp at e, h.fb, fun k e => by simp [Value.ownBlock] at e, fun k hk => ⟨(h.lt k hk).1, Nat.lt_of_lt_of_le (h.lt k hk).2 hm.size⟩⟩
      exact ⟨F, ⟨_, _, h9⟩, hm.mono (fun k _ e => by rw [e]; exact h.fb), fun k hk => .inl hk⟩)
    have hb := h.box
    have HB := hide hb
    clear h hb hn hlp
    have hz := clear_none w 0 0
    go_enter Tryz.func117, Tryz.ntmps117
    go_wp2
    go_end0
    exact ⟨rfl, (unhide HS) _ (heap_setCell_same _ _ _ _ _ _ (unhide HB)) (Mod.setCell _ _ _ rfl)⟩
  · subst e
    have hnp : n ≤ ps.length := by omega
    obtain ⟨cur, hg, hcl, hnc, hcm, htk, hbg⟩ := own_cur h.own
    refine (rcut_raw h.box hg hcl hnc hcm n hnp).mono ?_
    rintro e w' ⟨rfl, cur', h1, h2, h3, h4, h5⟩
    refine ⟨rfl, h.done (g := g) (n := n) (cap := cap) (ps5 := ps.take n) cur' (.inl rfl) hbg h4 h1 h2 (by omega) hcm ?_ (by simp; omega) (h5.mono (fun k _ e => e.imp id .inl)) (by simp [hlp]) (take_sub h.nodup n) ?_⟩
    · rw [h3]
      have : cur.take n = (cur.take ps.length).take n := by rw [List.take_take, Nat.min_eq_left hnp]
      rw [this, htk, ptrs_take]
    · intro j b y hb hy
      rw [List.getElem?_take] at hb hy
      split at hb
      · rename_i hj
        rw [if_pos hj] at hy
        exact h.ents j b y hb hy
      · cases hb

theorem del_get {α : Type} (l : List α) (i j : Nat) : (l.take i ++ l.drop (i + 1))[j]? = if j < i then l[j]? else l[j + 1]? := by
  by_cases hi : i ≤ l.length
  · by_cases h1 : j < i
    · rw [if_pos h1, List.getElem?_append_left (by simp; omega), List.getElem?_take, if_pos h1]
    · rw [if_neg h1, List.getElem?_append_right (by simp; omega), List.length_take, Nat.min_eq_left hi, List.getElem?_drop]
      congr 1
      omega
  · rw [List.take_of_length_le (by omega), List.drop_of_length_le (by omega), List.append_nil]
    split
    · rfl
    · rw [List.getElem?_eq_none (by omega), List.getElem?_eq_none (by omega)]
theorem del_list {cur : List Value} {ps : List Nat} {i : Nat} (hc : cur.take ps.length = ptrs ps) (hi : i < ps.length) (hl : ps.length ≤ cur.length) :
    (splice cur i (ptrs (ps.drop (i + 1)))).take (ps.length - 1) = ptrs (ps.take i ++ ps.drop (i + 1)) := by
  have e1 : cur.take i = ptrs (ps.take i) := by
    have : cur.take i = (cur.take ps.length).take i := by rw [List.take_take, Nat.min_eq_left (by omega)]
    rw [this, hc, ptrs_take]
  have e3 : (ptrs (ps.drop (i + 1))).length = ps.length - (i + 1) := by rw [ptrs_len, List.length_drop]
  unfold splice
  have e5 : (cur.take i).length = i := by simp; omega
  have e4 : (ptrs (ps.drop (i + 1)) ++ cur.drop (i + (ptrs (ps.drop (i + 1))).length)).take (ps.length - 1 - i) = ptrs (ps.drop (i + 1)) := by
    rw [List.take_append_of_le_length (by omega), List.take_of_length_le (by omega)]
  rw [List.take_append, List.take_of_length_le (l := cur.take i) (by omega), e5, e4, e1]
  simp [ptrs]

set_option maxHeartbeats 2000000 in
theorem rremove_any (h : RowMAc w base bW F v ps es) (i : Nat) (hi : i < es.length) (hl : es.length < 1000000000000) :
    Calls Tryz.prog 68 #[.pointer (some ⟨bW, 0, none⟩), .int .i64 i] w fun e w' => e = .returned (.tuple #[]) ∧ UpdWAc F w w' base bW (es.take i ++ es.drop (i + 1)) := by
  have hlp := h.len
  have hip : i < ps.length := by omega
  rcases h.val with ⟨_, e⟩ | ⟨g, cap, e⟩
  · subst e; simp at hip
  subst e
  obtain ⟨cur, hg, hcl, hnc, hcm, htk, hbg⟩ := own_cur h.own
  have c2 := h.cell
  have hgW : g ≠ bW := fun e => h.vne (by rw [e]; rfl)
  have hfin : ∀ w4, Hid (w4.heap[g]? = some (.cells (splice cur i (ptrs (ps.drop (i + 1)))).toArray 120 (0, 0))) → w.drew.grownBy w4 (some g) →
      w4.cell? ⟨bW, 0, none⟩ = some (.slice (some ⟨g, 0, none⟩) ps.length cap) ∧ ∀ z : Int, z = (ps.length : Int) - 1 → Calls Tryz.prog 117 #[.pointer (some ⟨bW, 0, none⟩), .int .i64 z] w4 fun e w' => e = .returned (.tuple #[]) ∧ UpdWAc F w w' base bW (es.take i ++ es.drop (i + 1)) := by
    intro w4 hg4 hb4
    have hg4 : w4.heap[g]? = some (.cells (splice cur i (ptrs (ps.drop (i + 1)))).toArray 120 (0, 0)) := hg4
    have hsl : (splice cur i (ptrs (ps.drop (i + 1)))).length = cap := by rw [length_splice _ _ _ (by rw [ptrs_len, List.length_drop]; omega)]; exact hcl
    have b4 : w4.heap[bW]? = _ := (hb4.block bW (lt_of_block h.box) (fun e => hgW (by cases e; rfl))).trans h.box
    refine ⟨cell_of_one b4, ?_⟩
    rintro z rfl
    have hcut := rcut_raw (n := ps.length - 1) b4 hg4 hsl hnc hcm (by omega)
    rw [show ((ps.length - 1 : Nat) : Int) = (ps.length : Int) - 1 by omega] at hcut
    refine hcut.mono ?_
    rintro e w' ⟨rfl, cur', h1, h2, h3, h4, h5⟩
    have M : Mod (fun k => k = bW ∨ k = g) w w' := ((mod_drew w).trans (Mod.grown hb4 (fun k hk => .inr (by cases hk; rfl)))).trans h5
    refine ⟨rfl, h.done (g := g) (n := ps.length - 1) (cap := cap) (ps5 := ps.take i ++ ps.drop (i + 1)) cur' (.inl rfl) hbg h4 h1 h2 (by omega) hcm ?_ (by simp; omega) (M.mono (fun k _ e => e.imp id .inl)) (by simp; omega) ?_ ?_⟩
    · rw [h3]; exact del_list htk hip (by omega)
    · refine h.nodup.sublist ?_
      have := List.Sublist.append (List.Sublist.refl (ps.take i)) (List.drop_sublist_drop_left ps (Nat.le_succ i))
      rwa [List.take_append_drop] at this
    · intro j b y hb hy
      rw [del_get] at hb hy
      by_cases h1 : j < i
      · rw [if_pos h1] at hb hy; exact h.ents _ b y hb hy
      · rw [if_neg h1] at hb hy; exact h.ents _ b y hb hy
  have HFIN := hide hfin
  have HG2 := hide hg
  have HTK := hide htk
  have HCL := hide hcl
  have hu9 : Tryz.prog.underlying 141 = some (.slice 120) := Tryz.underlying141
  have hsz9 : (Tryz.prog.info? 120).map (·.size) = some 1 := by kernel_rfl
  have hcz : (ps.length : Int) ≤ (cap : Int) := by omega
  have hcmz : (cap : Int) ≤ 9223372036854775807 := by unfold maxLen at hcm; omega
  have hiz : (i : Int) < (ps.length : Int) := by omega
  have hiz1 : (i : Int) + 1 ≤ (ps.length : Int) := by omega
  have hizl : (i : Int) ≤ (ps.length : Int) := by omega
  have hi0z : (0 : Int) ≤ (i : Int) := by omega
  have hi1z : (0 : Int) ≤ (i : Int) + 1 := by omega
  have hit : ((i : Int) + 1).toNat = i + 1 := by omega
  have hlz : (ps.length : Int) < 1000000000000 := by omega
  have hwr : IntKind.i64.wrap ((i : Int) + 1) = (i : Int) + 1 := by rw [IntKind.wrap_i64]; omega
  have hci : ¬ cap = i := by omega
  have HMIN : Hid ((ptrs (ps.drop (i + 1))).length = Nat.min (ps.length - (i + 1)) (ps.length - i)) := hide (by rw [ptrs_len, List.length_drop]; exact (Nat.min_eq_left (by omega)).symm)
  have HSRC : Hid (∀ j v, (ptrs (ps.drop (i + 1)))[j]? = some v → w.cell? ((⟨g, i + 1, none⟩ : Addr).add j) = some v) := hide (fun j v hv => by
    have hadd : (⟨g, i + 1, none⟩ : Addr).add j = ⟨g, i + 1 + j, none⟩ := by unfold Addr.add; split <;> simp_all
    rw [hadd, cell_of_row _ g _ _ _ _ (unhide HG2), List.getElem?_toArray]
    have h9 : (cur.take ps.length)[i + 1 + j]? = some v := by
      rw [unhide HTK]
      simp only [ptrs, List.map_drop, List.getElem?_drop] at hv ⊢
      exact hv
    rw [List.getElem?_take] at h9
    split at h9
    · exact h9
    · cases h9)
  clear h hfin hg htk hcl hcm hnc hlp hi hl
  go_enter Tryz.func68, Tryz.ntmps68
  by_cases hcp : cap = i + 1
  · have HNIL : Hid (ptrs (ps.drop (i + 1)) = []) := hide (by rw [List.drop_of_length_le (by omega)]; rfl)
    have hpl : ps.length = i + 1 := by omega
    have HPL := hide hpl
    rw [unhide HNIL] at HFIN
    rw [hpl] at HFIN c2 hcz hiz hiz1 hizl hlz
    subst hcp
    clear hpl hci
    have hle : (i : Int) ≤ (i : Int) + 1 := by omega
    go_wp2_with fail
    go_region_law (refine step_copy_in rfl (.tmp 9) (.tmp 16) 141 141 rfl 120 hu9 hsz9 (some ⟨g, i, none⟩) (some ⟨g, 0, none⟩) 1 1 0 0 (by rfl) (by rfl) g i cur 120 (by exact unhide HG2) [] rfl (fun h => by simp at h) (by have := unhide HCL; simp; omega) (fun v h => by simp at h) ?_; intro w4 hg4 hb4)
    all_goals obtain ⟨f1, f2⟩ := (unhide HFIN) w4 hg4 hb4
    all_goals have HF2 := hide f2
    all_goals clear f2 hg4 hb4
    all_goals go_wp2_with (go_at_call 117; refine ((unhide HF2) _ (by omega)).mono ?_; rintro e w5 ⟨rfl, hu⟩; have HU := hide hu; clear hu)
    all_goals go_end0
    all_goals exact ⟨rfl, unhide HU⟩
  · go_wp2_with fail
    go_region_law (refine step_copy_in rfl (.tmp 9) (.tmp 16) 141 141 rfl 120 hu9 hsz9 (some ⟨g, i, none⟩) (some ⟨g, i + 1, none⟩) (ps.length - i) (cap - i) (ps.length - (i + 1)) (cap - (i + 1)) (by rfl) (by rfl) g i cur 120 (by exact unhide HG2) (ptrs (ps.drop (i + 1))) (by exact unhide HMIN) (by exact fun _ => ⟨rfl, _, rfl, unhide HSRC⟩) (by have := unhide HCL; rw [ptrs_len, List.length_drop]; omega) (ptrs_one _) ?_; intro w4 hg4 hb4)
    all_goals obtain ⟨f1, f2⟩ := (unhide HFIN) w4 hg4 hb4
    all_goals have HF2 := hide f2
    all_goals clear f2 hg4 hb4
    all_goals go_wp2_with (go_at_call 117; refine ((unhide HF2) _ (by omega)).mono ?_; rintro e w5 ⟨rfl, hu⟩; have HU := hide hu; clear hu)
    all_goals go_end0
    all_goals exact ⟨rfl, unhide HU⟩
end
end Go.Proofs.YtkakncngkmoegaaGreat
