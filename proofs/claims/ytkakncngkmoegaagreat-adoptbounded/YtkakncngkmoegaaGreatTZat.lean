/-
  
-/
import Derived.Test.YtkakncngkmoegaaGreatTZas
import Derived.Deep.LoopGhost
import Derived.WalkMore
import Derived.ScopeJumps
import Derived.Deep.RegionWith
namespace Go.Proofs.YtkakncngkmoegaaGreat
open Go.RowKit

/-- Is it an element of HTML of one of these names? -/
def qK (ks : List Key) (l : List ByteArray) (x : Int) : Bool := (elOf ks x).isSome && amongM (calOf ks x) 0 l
theorem qK_of {os : List OneM} {k : Nat} {o : OneM} (ho : os[k]? = some o) (l : List ByteArray) : qK (keysO os) l (k : Int) = isOfO o l := by
  have hk : keyAt (keysO os) (k : Int) = some (keyO o) := by simp [keyAt, keysO, ho]
  unfold qK isOfO
  have he := elOf_key hk
  by_cases h1 : o.kind = 1
  · have h2 : elOf (keysO os) (k : Int) = some ⟨o.space, o.name⟩ := by rw [he]; simp [keyO, h1]
    rw [h2]
    simp [calOf, h2, amongM, h1]
  · have h2 : elOf (keysO os) (k : Int) = none := by rw [he]; simp [keyO, h1]
    rw [h2]
    simp [h1]

def scanL (q : Int → Bool) (L : List Int) : Nat → Int
  | 0 => -1
  | n + 1 => if q ((L[n]?).getD (-1)) then (n : Int) else scanL q L n
theorem scanL_lt (q : Int → Bool) (L : List Int) : ∀ n, scanL q L n = -1 ∨ ∃ j : Nat, scanL q L n = (j : Int) ∧ j < n ∧ q ((L[j]?).getD (-1)) = true
  | 0 => .inl rfl
  | n + 1 => by
    unfold scanL
    by_cases h : q ((L[n]?).getD (-1)) = true
    · rw [if_pos h]
      exact .inr ⟨n, rfl, by omega, h⟩
    · rw [if_neg h]
      rcases scanL_lt q L n with e | ⟨j, e, hj, hq⟩
      · exact .inl e
      · exact .inr ⟨j, e, by omega, hq⟩
/-- Two questions that no number answers both: the last of either is the later one. -/
theorem scanL_two {q qT qM : Int → Bool} (L : List Int) (h : ∀ x, q x = (qT x || qM x)) (hx : ∀ x, qT x = true → qM x = false) : ∀ n,
    (scanL q L n = -1 ∧ scanL qT L n = -1 ∧ scanL qM L n = -1) ∨ (0 ≤ scanL qM L n ∧ scanL qT L n < scanL qM L n ∧ scanL q L n = scanL qM L n) ∨ (0 ≤ scanL qT L n ∧ scanL qM L n < scanL qT L n ∧ scanL q L n = scanL qT L n)
  | 0 => .inl ⟨rfl, rfl, rfl⟩
  | n + 1 => by
    have ih := scanL_two L h hx n
    have b1 := scanL_lt qT L n
    have b2 := scanL_lt qM L n
    have hq := h ((L[n]?).getD (-1))
    have hxx := hx ((L[n]?).getD (-1))
    unfold scanL
    cases hT : qT ((L[n]?).getD (-1)) with
    | true =>
      rw [hxx hT, hq, hT]
      simp only [Bool.true_or, if_true, Bool.false_eq_true, if_false]
      right; right
      refine ⟨by omega, ?_, trivial⟩
      rcases b2 with e | ⟨j, e, hj, _⟩ <;> omega
    | false =>
      cases hM : qM ((L[n]?).getD (-1)) with
      | true =>
        rw [hq, hT, hM]
        simp only [Bool.or_true, if_true, Bool.false_eq_true, if_false]
        right; left
        refine ⟨by omega, ?_, trivial⟩
        rcases b1 with e | ⟨j, e, hj, _⟩ <;> omega
      | false =>
        rw [hq, hT, hM]
        simp only [Bool.or_self, Bool.false_eq_true, if_false]
        exact ih

def tableB : ByteArray := ⟨#[116, 97, 98, 108, 101]⟩
def innerO (os : List OneM) (k : Int) : Int := ((os[k.toNat]?).map (·.inner)).getD (-1)
theorem innerO_of {os : List OneM} {i : Nat} {o : OneM} (h : os[i]? = some o) : innerO os (i : Int) = o.inner := by simp [innerO, h]
/-- As the program finds it. -/
def progF (os : List OneM) (L : List Int) (t : Int) : Int × Int :=
  if scanL (qK (keysO os) [tableB, tmplB]) L L.length = -1 then (if L = [] then t else atM L 0, -1)
  else if qK (keysO os) [tmplB] (atM L (scanL (qK (keysO os) [tableB, tmplB]) L L.length)) then (atM L (scanL (qK (keysO os) [tableB, tmplB]) L L.length), -1)
  else if upIO os (atM L (scanL (qK (keysO os) [tableB, tmplB]) L L.length)) ≠ -1 then (upIO os (atM L (scanL (qK (keysO os) [tableB, tmplB]) L L.length)), atM L (scanL (qK (keysO os) [tableB, tmplB]) L L.length))
  else if scanL (qK (keysO os) [tableB, tmplB]) L L.length = 0 then (t, -1)
  else (atM L (scanL (qK (keysO os) [tableB, tmplB]) L L.length - 1), -1)
/-- As the document says it. -/
def docF (os : List OneM) (L : List Int) (t : Int) : Int × Int :=
  if 0 ≤ scanL (qK (keysO os) [tmplB]) L L.length ∧ scanL (qK (keysO os) [tableB]) L L.length < scanL (qK (keysO os) [tmplB]) L L.length then (innerO os (atM L (scanL (qK (keysO os) [tmplB]) L L.length)), -1)
  else if scanL (qK (keysO os) [tableB]) L L.length < 0 then (if L = [] then t else atM L 0, -1)
  else if upIO os (atM L (scanL (qK (keysO os) [tableB]) L L.length)) ≠ -1 then (upIO os (atM L (scanL (qK (keysO os) [tableB]) L L.length)), atM L (scanL (qK (keysO os) [tableB]) L L.length))
  else if 0 < scanL (qK (keysO os) [tableB]) L L.length then (atM L (scanL (qK (keysO os) [tableB]) L L.length - 1), -1)
  else (t, -1)
/-- Then out of a template: by the names, and by the contents. -/
def outP (os : List OneM) (p : Int × Int) : Int × Int := if qK (keysO os) [tmplB] p.1 then (innerO os p.1, -1) else p
def outD (os : List OneM) (p : Int × Int) : Int × Int := if innerO os p.1 ≠ -1 then (innerO os p.1, -1) else p

theorem hasT_two (n : ByteArray) : hasT [tableB, tmplB] n = (hasT [tableB] n || hasT [tmplB] n) := by simp [hasT]
theorem hasT_apart (n : ByteArray) (h : hasT [tableB] n = true) : hasT [tmplB] n = false := by
  have e1 : tableB.toList = [116, 97, 98, 108, 101] := by decide +kernel
  have e2 : tmplB.toList = [116, 101, 109, 112, 108, 97, 116, 101] := by decide +kernel
  simp only [hasT, List.any_cons, List.any_nil, Bool.or_false, e1, e2] at h ⊢
  have h1 : n.toList = [116, 97, 98, 108, 101] := by simpa using h
  rw [h1]
  decide
theorem qK_two (ks : List Key) (x : Int) : qK ks [tableB, tmplB] x = (qK ks [tableB] x || qK ks [tmplB] x) := by
  unfold qK amongM
  rw [hasT_two]
  cases (elOf ks x).isSome <;> cases ((calOf ks x).space == 0) <;> simp
theorem qK_apart (ks : List Key) (x : Int) (h : qK ks [tableB] x = true) : qK ks [tmplB] x = false := by
  unfold qK amongM at h ⊢
  simp only [Bool.and_eq_true] at h
  rw [hasT_apart _ h.2.2]
  simp

theorem out_same {os : List OneM} (hone : ∀ o ∈ os, OneI o) {p : Nat} (hp : p < os.length) (b : Int) : outP os ((p : Int), b) = outD os ((p : Int), b) := by
  have ho : os[p]? = some os[p] := List.getElem?_eq_getElem hp
  have hi := (hone _ (List.getElem_mem hp)).inner
  unfold outP outD
  simp only
  rw [qK_of ho, innerO_of ho]
  by_cases h : os[p].inner = -1
  · have h2 : isOfO os[p] [tmplB] = false := by
      cases hc : isOfO os[p] [tmplB] with
      | false => rfl
      | true => exact absurd h (hi.2 hc)
    rw [h2, h]
    simp
  · rw [hi.1 h]
    simp [h]

/-- Both ways lead to the same place. -/
theorem ways_same {ns : List NodeM} {os : List OneM} {L : List Int} (hs : Sim ns os) (hg : Good (keysO os) L) (hone : ∀ o ∈ os, OneI o) {k : Nat} (hk : k < os.length) :
    outP os (progF os L (k : Int)) = outD os (docF os L (k : Int)) ∧ ∃ p : Nat, (progF os L (k : Int)).1 = (p : Int) ∧ p < os.length := by
  have hat : ∀ j : Nat, j < L.length → ∃ p : Nat, atM L (j : Int) = (p : Int) ∧ p < os.length ∧ L[j]? = some (p : Int) := by
    intro j hj
    have hx : L[j] ∈ L := List.getElem_mem hj
    obtain ⟨p, e, hp⟩ := elOf_nat (hg.el _ hx)
    rw [keysO_len] at hp
    refine ⟨p, ?_, hp, ?_⟩
    · rw [atM_in (List.getElem?_eq_getElem hj)]; exact e
    · rw [List.getElem?_eq_getElem hj, e]
  have b0 := scanL_lt (qK (keysO os) [tableB, tmplB]) L L.length
  have bM := scanL_lt (qK (keysO os) [tmplB]) L L.length
  have bT := scanL_lt (qK (keysO os) [tableB]) L L.length
  have h3 := scanL_two L (qK_two (keysO os)) (qK_apart (keysO os)) L.length
  unfold progF docF
  generalize scanL (qK (keysO os) [tableB, tmplB]) L L.length = z at *
  generalize hzT : scanL (qK (keysO os) [tableB]) L L.length = zT at *
  generalize hzM : scanL (qK (keysO os) [tmplB]) L L.length = zM at *
  rcases h3 with ⟨rfl, rfl, rfl⟩ | ⟨h1, h2, rfl⟩ | ⟨h1, h2, rfl⟩
  · rw [if_pos rfl, if_neg (show ¬ ((0 : Int) ≤ -1 ∧ (-1 : Int) < -1) by omega), if_pos (show (-1 : Int) < 0 by omega)]
    by_cases hL : L = []
    · rw [if_pos hL]
      exact ⟨out_same hone hk _, k, rfl, hk⟩
    · rw [if_neg hL]
      obtain ⟨p, e, hp, _⟩ := hat 0 (List.length_pos_iff.2 hL)
      have e' : atM L 0 = (p : Int) := e
      rw [e']
      exact ⟨out_same hone hp _, p, rfl, hp⟩
  · rcases bM with e | ⟨j, rfl, hj, hq⟩
    · omega
    · obtain ⟨p, e, hp, hL⟩ := hat j hj
      rw [hL] at hq
      have hq' : qK (keysO os) [tmplB] (p : Int) = true := hq
      have ho : os[p]? = some os[p] := List.getElem?_eq_getElem hp
      have hof : isOfO os[p] [tmplB] = true := by rw [← qK_of ho]; exact hq'
      have hin : os[p].inner ≠ -1 := ((hone _ (List.getElem_mem hp)).inner).2 hof
      rw [if_neg (by omega), e, hq', if_pos rfl, if_pos ⟨by omega, h2⟩]
      refine ⟨?_, p, rfl, hp⟩
      rcases hs.inner p _ ho with e1 | ⟨e1, m, hm, hh⟩
      · exact absurd e1 hin
      · have hmi : m.inner = -1 := by
          rcases hs.host (p + 1) m hm with e2 | ⟨e2, _⟩
          · omega
          · have hi := (hone m (List.mem_of_getElem? hm)).inner
            cases Classical.em (m.inner = -1) with
            | inl h => exact h
            | inr h =>
              have := hi.1 h
              simp [isOfO, e2] at this
        unfold outP outD
        simp only
        rw [hq', if_pos rfl, innerO_of ho, e1]
        have e3 : innerO os ((p : Int) + 1) = -1 := by
          have := innerO_of hm
          rw [hmi] at this
          exact this
        rw [e3, if_neg (by simp)]
  · rcases bT with e | ⟨j, rfl, hj, hq⟩
    · omega
    · obtain ⟨p, e, hp, hL⟩ := hat j hj
      rw [hL] at hq
      have hq' : qK (keysO os) [tableB] (p : Int) = true := hq
      have hno : qK (keysO os) [tmplB] (p : Int) = false := qK_apart _ _ hq'
      have ho : os[p]? = some os[p] := List.getElem?_eq_getElem hp
      rw [if_neg (show ¬ ((j : Int) = -1) by omega), e, hno, if_neg (by decide), if_neg (show ¬ (0 ≤ zM ∧ (j : Int) < zM) by omega), if_neg (show ¬ ((j : Int) < 0) by omega)]
      by_cases hu : upIO os (p : Int) = -1
      · have hu2 : ¬ (upIO os (p : Int) ≠ -1) := fun h => h hu
        rw [if_neg hu2, if_neg hu2]
        by_cases hj0 : j = 0
        · subst hj0
          rw [if_pos (show (((0 : Nat) : Int)) = 0 from rfl), if_neg (show ¬ ((0 : Int) < ((0 : Nat) : Int)) by omega)]
          exact ⟨out_same hone hk _, k, rfl, hk⟩
        · rw [if_neg (show ¬ ((j : Int) = 0) by omega), if_pos (show (0 : Int) < (j : Int) by omega)]
          obtain ⟨p2, e2, hp2, _⟩ := hat (j - 1) (by omega)
          have e3 : atM L ((j : Int) - 1) = (p2 : Int) := by rw [← e2]; congr 1; omega
          rw [e3]
          exact ⟨out_same hone hp2 _, p2, rfl, hp2⟩
      · rw [if_pos hu, if_pos hu]
        rw [upIO_of ho] at hu ⊢
        rcases hs.up p _ ho with e4 | ⟨p2, m, e4, hm, _⟩
        · exact absurd e4 hu
        · rw [e4]
          have hp2 := (List.getElem?_eq_some_iff.1 hm).1
          exact ⟨out_same hone hp2 _, p2, rfl, hp2⟩
end Go.Proofs.YtkakncngkmoegaaGreat
/-
  Package place: isNamed, lastNamed.
-/
namespace Go.Proofs.YtkakncngkmoegaaGreat
open Go.RowKit

theorem isOfG {o : OneM} {nk nsp : Int} {nm : ByteArray} {av : Value} {da sy : ByteArray} {pa fi la pr ne inn : Int} {att : List AttrM} (hq : NodeIs o ⟨nk, nsp, nm, av, da, sy, pa, fi, la, pr, ne, inn, att⟩) (v : Value) (W : World) (b : Nat) (l : List ByteArray) (hl : l.length ≤ 1000) (ht : TabAt W b l) :
    Calls Tryz.prog 194 #[.agg (nodeA nk nsp nm v da sy pa fi la pr ne inn), .slice (some ⟨b, 0, none⟩) l.length l.length] W fun e w' => e = .returned (.bool (isOfO o l)) ∧ Below W.heap.size W w' := by
  refine (isOf_any ⟨nk, nsp, nm, av, da, sy, pa, fi, la, pr, ne, inn, att⟩ v l hl b ht).mono ?_
  rintro e w' ⟨rfl, hb⟩
  rw [hq.of]
  exact ⟨rfl, hb⟩

section
variable {w wx : World} {obs : List (Ob w.heap.size)} {i j bA bR bK bW : Nat} {os : List OneM} {L : List Int}
set_option maxRecDepth 100000 in
theorem pNamed_any (h : Env w wx obs) (hi : obs[i]? = some (aO _ bA os)) {k : Nat} {o : OneM} (ho : os[k]? = some o) (l : List ByteArray) (hl : l.length ≤ 1000) (b : Nat) (ht : TabAt wx b l) :
    Calls Tryz.prog 165 #[.pointer (some ⟨bA, 0, none⟩), .int .i64 k, .slice (some ⟨b, 0, none⟩) l.length l.length] wx fun e w' => e = .returned (.bool (isOfO o l)) ∧ Below wx.heap.size wx w' := by
  have HN := hide (anode_in h hi ho)
  have HT := hide ht
  have HI := hide (fun (nk nsp : Int) (nm : ByteArray) (av : Value) (da sy : ByteArray) (pa fi la pr ne inn : Int) (att : List AttrM) (hq : NodeIs o ⟨nk, nsp, nm, av, da, sy, pa, fi, la, pr, ne, inn, att⟩) (v : Value) (W : World) (ht : TabAt W b l) => isOfG hq v W b l hl ht)
  unfold nodeA at HI
  generalize l.length = n at *
  clear h hi ho ht hl
  go_enter Tryz.func165, Tryz.ntmps165
  go_wp2_with (first
    | (go_at_call 14; refine (unhide HN).mono ?_; rintro e w4 ⟨n, ao, m, c, rfl, hn, hb4⟩; have HB4 := hide hb4; obtain ⟨nk, nsp, nm, av, da, sy, pa, fi, la, pr, ne, inn, att⟩ := n; have HNI := hide hn; clear hn hb4; simp only [nodeV, NodeM.cells])
    | (go_at_call 194; refine ((unhide HI) _ _ _ _ _ _ _ _ _ _ _ _ _ (unhide HNI) _ _ ((unhide HT).below ((unhide HB4).alloc (unhide HB4).size _))).mono ?_; rintro e w5 ⟨rfl, hb5⟩; have HB5 := hide (((unhide HB4).alloc (unhide HB4).size _).trans (hb5.mono (Nat.le_trans (unhide HB4).size (by simp)))); clear hb5))
  go_ret
  exact ⟨rfl, unhide HB5⟩

theorem results_tmp_cell {fn : Func} {p u : Tmp} {ty : TypeId} (h : fn.results = #[.tmp u, .cell p ty]) (tmps : Array Value) (P : Program) (w : World) :
    (results fn tmps).run P w = ((asAddr (tmps.getD p undef)).run P w).andThen fun a w₁ => ((loadVar ty a).run P w₁).andThen fun v w₂ => .ok (.tuple #[tmps.getD u undef, v]) w₂ := by
  simp only [results, h]
  simp [Sem.run_bind, Result.andThen]
theorem node_ret2 {f : Func} (hr : f.results = #[.tmp 6, .cell 7 47]) (W : World) (b : Nat) (n : NodeM) (h : W.heap[b]? = some (.cells n.cells.toArray 47 (0, 0))) (tmps : Array Value) (x : Value) (h4 : tmps.getD 7 undef = .pointer (some ⟨b, 0, none⟩)) (h5 : tmps.getD 6 undef = x) :
    (results f tmps).run Tryz.prog W = .ok (.tuple #[x, .agg n.cells.toArray]) W := by
  have c : ∀ j, j < 12 → W.cell? ⟨b, j, none⟩ = n.cells[j]? := fun j hj => by simp [World.cell?, h]
  have c0 := c 0 (by omega)
  have c1 := c 1 (by omega)
  have c2 := c 2 (by omega)
  have c3 := c 3 (by omega)
  have c4 := c 4 (by omega)
  have c5 := c 5 (by omega)
  have c6 := c 6 (by omega)
  have c7 := c 7 (by omega)
  have c8 := c 8 (by omega)
  have c9 := c 9 (by omega)
  have c10 := c 10 (by omega)
  have c11 := c 11 (by omega)
  clear c
  simp only [NodeM.cells, List.getElem?_cons_zero, List.getElem?_cons_succ] at c0 c1 c2 c3 c4 c5 c6 c7 c8 c9 c10 c11
  rw [results_tmp_cell hr tmps Tryz.prog W, h4, h5]
  simp [go_sem, c0, c1, c2, c3, c4, c5, c6, c7, c8, c9, c10, c11, NodeM.cells]

theorem heap_drew_at {W : World} {b : Nat} {o : Obj} (h : W.heap[b]? = some o) : W.drew.heap[b]? = some o := h
def zeroN : NodeM := ⟨0, 0, ⟨#[]⟩, .slice none 0 0, ⟨#[]⟩, ⟨#[]⟩, 0, 0, 0, 0, 0, 0, []⟩
/-- A node's box made behind w, still empty. -/
structure Nx (w W : World) : Prop where
  bel : Below w.heap.size w W
  box : W.heap[w.heap.size]? = some (.cells zeroN.cells.toArray 47 (0, 0))
theorem Nx.new (w : World) : Nx w (w.alloc (.cells zeroN.cells.toArray 47)) := ⟨below_new w _, heap_alloc_new w _⟩
theorem Nx.more {w W W' : World} (h : Nx w W) (hb : Below W.heap.size W W') : Nx w W' := ⟨h.bel.trans (hb.mono h.bel.size), (hb.block _ (lt_of_block h.box)).trans h.box⟩
theorem Nx.alloc {w W : World} (h : Nx w W) (o : Obj) : Nx w (W.alloc o) := h.more (below_new W o)
theorem Nx.put {w W : World} (h : Nx w W) (n : NodeM) : (put12 W w.heap.size n).heap[w.heap.size]? = some (.cells n.cells.toArray 47 (0, 0)) ∧ Below w.heap.size w (put12 W w.heap.size n) :=
  ⟨put12_block _ _ _ _ _ h.box rfl, h.bel.trans ((put12_mod W w.heap.size n).below h.bel.size (fun k hk => by omega))⟩

theorem Nx.cells {w W : World} (h : Nx w W) : W.cell? ⟨w.heap.size, 0, none⟩ = some (.int .i64 0) ∧ W.cell? ⟨w.heap.size, 1, none⟩ = some (.int .i64 0) ∧ W.cell? ⟨w.heap.size, 2, none⟩ = some (.string ⟨#[]⟩) ∧ W.cell? ⟨w.heap.size, 3, none⟩ = some (.slice none 0 0) ∧ W.cell? ⟨w.heap.size, 4, none⟩ = some (.string ⟨#[]⟩) ∧ W.cell? ⟨w.heap.size, 5, none⟩ = some (.string ⟨#[]⟩) ∧ W.cell? ⟨w.heap.size, 6, none⟩ = some (.int .i64 0) ∧ W.cell? ⟨w.heap.size, 7, none⟩ = some (.int .i64 0) ∧ W.cell? ⟨w.heap.size, 8, none⟩ = some (.int .i64 0) ∧ W.cell? ⟨w.heap.size, 9, none⟩ = some (.int .i64 0) ∧ W.cell? ⟨w.heap.size, 10, none⟩ = some (.int .i64 0) ∧ W.cell? ⟨w.heap.size, 11, none⟩ = some (.int .i64 0) ∧ ∀ j, W.frozen? ⟨w.heap.size, j, none⟩ = false := by
  have hb := h.box
  simp only [zeroN, NodeM.cells] at hb
  refine ⟨by simp [World.cell?, hb], by simp [World.cell?, hb], by simp [World.cell?, hb], by simp [World.cell?, hb], by simp [World.cell?, hb], by simp [World.cell?, hb], by simp [World.cell?, hb], by simp [World.cell?, hb], by simp [World.cell?, hb], by simp [World.cell?, hb], by simp [World.cell?, hb], by simp [World.cell?, hb], fun j => by simp [World.frozen?, hb]⟩

set_option maxHeartbeats 1000000 in
set_option maxRecDepth 100000 in
theorem lastNamed_any (h : Env w wx obs) (hi : obs[i]? = some (aO _ bA os)) (hj : obs[j]? = some (stOb _ bK bA (keysO os) L)) (hij : i ≠ j) (hg : Good (keysO os) L) (l : List ByteArray) (hl : l.length ≤ 1000) (b : Nat) (ht : TabAt wx b l) :
    Calls Tryz.prog 195 #[.pointer (some ⟨bA, 0, none⟩), .pointer (some ⟨bK, 0, none⟩), .slice (some ⟨b, 0, none⟩) l.length l.length] wx fun e w' => (∃ v, e = .returned (.tuple #[.int .i64 (scanL (qK (keysO os) l) L L.length), v]) ∧
      ((scanL (qK (keysO os) l) L L.length = -1 ∧ v = .agg zeroN.cells.toArray) ∨ ∃ (z p : Nat) (o : OneM) (n : NodeM) (ao : Option Addr) (m c : Nat), scanL (qK (keysO os) l) L L.length = (z : Int) ∧ L[z]? = some (p : Int) ∧ os[p]? = some o ∧ v = nodeV n (.slice ao m c) ∧ NodeIs o n)) ∧ Below wx.heap.size wx w' := by
  have HE := hide h
  have HLEN := hide (fun W (hW : Env w W obs) => env_len hW hj)
  have HAT := hide (fun W (hW : Env w W obs) (k : Int) => env_at hW hj k)
  have HND := hide (fun W (hW : Env w W obs) (k : Nat) (o : OneM) (ho : os[k]? = some o) => anode_in hW hi ho)
  have HT := hide ht
  have hfew : L.length ≤ 32768 := by
    obtain ⟨FA, F, h1, h2, _⟩ := h.as hi hj hij
    exact (Live.mk' h1 h2).few hg
  have hfz : (L.length : Int) ≤ 32768 := by omega
  have hat : ∀ z : Nat, z < L.length → ∃ p : Nat, L[z]? = some (p : Int) ∧ p < os.length ∧ atM L (z : Int) = (p : Int) := by
    intro z hz
    obtain ⟨p, e, hp⟩ := elOf_nat (hg.el _ (List.getElem_mem hz))
    rw [keysO_len] at hp
    exact ⟨p, by rw [List.getElem?_eq_getElem hz, e], hp, by rw [atM_in (List.getElem?_eq_getElem hz)]; exact e⟩
  have HATL := hide hat
  have HNX := hide (Nx.new wx)
  have HLL := hide hl
  clear ht h hi hj hg hat hl
  go_enter Tryz.func195, Tryz.ntmps195
  go_wp2_with (first
    | (go_at_call 13; refine ((unhide HLEN) _ ((unhide HE).more (below_new _ _))).mono ?_; rintro e w1 ⟨rfl, rfl⟩))
  go_loopg [8, 9, 10] L.length (fun g s8 _ _ wr => g ≤ L.length ∧ s8 = .int .i64 ((g : Int) - 1) ∧ scanL (qK (keysO os) l) L L.length = scanL (qK (keysO os) l) L g ∧ Nx wx wr)
  case atStart => exact ⟨Nat.le_refl _, rfl, rfl, unhide HNX⟩
  case round =>
    obtain ⟨hgl, rfl, hsc, hnx⟩ := hrel
    have HX := hide hnx
    have HSC := hide hsc
    clear hnx hsc
    cases gk with
    | zero =>
      obtain ⟨y0, y1, y2, y3, y4, y5, y6, y7, y8, y9, y10, y11, yf⟩ := (unhide HX).cells
      go_wp2
      have R := (unhide HX).put zeroN
      have hs : scanL (qK (keysO os) l) L L.length = -1 := unhide HSC
      refine bodyPost_ret (node_ret2 Tryz.results195 _ wx.heap.size zeroN R.1 _ _ rfl rfl) rfl ⟨⟨_, ?_, .inl ⟨hs, rfl⟩⟩, R.2⟩
      rw [hs]
      rfl
    | succ z =>
      obtain ⟨p, hp, hpl, hpa⟩ := (unhide HATL) z (by omega)
      have hz1 : ((z + 1 : Nat) : Int) - 1 = (z : Int) := by omega
      rw [hz1]
      have hz0 : (0 : Int) ≤ (z : Int) := by omega
      obtain ⟨o, ho⟩ : ∃ o, os[p]? = some o := ⟨_, List.getElem?_eq_getElem hpl⟩
      have HPA := hide hpa
      have HP := hide hp
      have HO := hide ho
      have HQ := hide (qK_of ho l)
      have HIO := hide (fun (nk nsp : Int) (nm : ByteArray) (av : Value) (da sy : ByteArray) (pa fi la pr ne inn : Int) (att : List AttrM) (hq : NodeIs o ⟨nk, nsp, nm, av, da, sy, pa, fi, la, pr, ne, inn, att⟩) (v : Value) (W : World) (ht : TabAt W b l) => isOfG hq v W b l (unhide HLL) ht)
      unfold nodeA at HIO
      clear hpa hp ho hz1
      cases hc : isOfO o l with
      | true =>
        rw [hc] at HIO HQ
        clear hc
        go_wp2_with (first
          | (go_at_call 15; refine ((unhide HAT) _ ((unhide HE).more (unhide HX).bel) _).mono ?_; rintro e w2 ⟨rfl, rfl⟩; rw [unhide HPA])
          | (go_at_call 14; refine ((unhide HND) _ ((unhide HE).more (unhide HX).bel) _ _ (unhide HO)).mono ?_; rintro e w4 ⟨n, ao, m, c, rfl, hn, hb4⟩; have HX4 := hide ((unhide HX).more hb4); obtain ⟨nk, nsp, nm, av, da, sy, pa, fi, la, pr, ne, inn, att⟩ := n; have HNI := hide hn; clear hn hb4; simp only [nodeV, NodeM.cells])
          | (go_at_call 194; refine ((unhide HIO) _ _ _ _ _ _ _ _ _ _ _ _ _ (unhide HNI) _ _ ((unhide HT).below ((unhide HX4).alloc _).bel)).mono ?_; rintro e w5 ⟨rfl, hb5⟩; have HX5 := hide (((unhide HX4).alloc _).more hb5); obtain ⟨y0, y1, y2, y3, y4, y5, y6, y7, y8, y9, y10, y11, yf⟩ := (unhide HX5).cells; have x0 := node_box hb5 0 _ rfl; have x1 := node_box hb5 1 _ rfl; have x2 := node_box hb5 2 _ rfl; have x3 := node_box hb5 3 _ rfl; have x4 := node_box hb5 4 _ rfl; have x5 := node_box hb5 5 _ rfl; have x6 := node_box hb5 6 _ rfl; have x7 := node_box hb5 7 _ rfl; have x8 := node_box hb5 8 _ rfl; have x9 := node_box hb5 9 _ rfl; have x10 := node_box hb5 10 _ rfl; have x11 := node_box hb5 11 _ rfl; clear hb5))
        go_region
        go_wp2
        have hs : scanL (qK (keysO os) l) L L.length = (z : Int) := by
          rw [unhide HSC]
          unfold scanL
          rw [unhide HP]
          exact if_pos (unhide HQ)
        have R := (unhide HX5).put ⟨nk, nsp, nm, .slice ao m c, da, sy, pa, fi, la, pr, ne, inn, att⟩
        refine bodyPost_ret (node_ret2 Tryz.results195 (put12 w5 wx.heap.size ⟨nk, nsp, nm, .slice ao m c, da, sy, pa, fi, la, pr, ne, inn, att⟩).drew wx.heap.size ⟨nk, nsp, nm, .slice ao m c, da, sy, pa, fi, la, pr, ne, inn, att⟩ (heap_drew_at R.1) _ _ rfl rfl) rfl ⟨⟨_, ?_, .inr ⟨z, p, o, ⟨nk, nsp, nm, av, da, sy, pa, fi, la, pr, ne, inn, att⟩, ao, m, c, hs, unhide HP, unhide HO, rfl, unhide HNI⟩⟩, R.2.drew⟩
        rw [hs]
        rfl
      | false =>
        rw [hc] at HIO HQ
        clear hc
        go_wp2_with (first
          | (go_at_call 15; refine ((unhide HAT) _ ((unhide HE).more (unhide HX).bel) _).mono ?_; rintro e w2 ⟨rfl, rfl⟩; rw [unhide HPA])
          | (go_at_call 14; refine ((unhide HND) _ ((unhide HE).more (unhide HX).bel) _ _ (unhide HO)).mono ?_; rintro e w4 ⟨n, ao, m, c, rfl, hn, hb4⟩; have HX4 := hide ((unhide HX).more hb4); obtain ⟨nk, nsp, nm, av, da, sy, pa, fi, la, pr, ne, inn, att⟩ := n; have HNI := hide hn; clear hn hb4; simp only [nodeV, NodeM.cells])
          | (go_at_call 194; refine ((unhide HIO) _ _ _ _ _ _ _ _ _ _ _ _ _ (unhide HNI) _ _ ((unhide HT).below ((unhide HX4).alloc _).bel)).mono ?_; rintro e w5 ⟨rfl, hb5⟩; have HX5 := hide (((unhide HX4).alloc _).more hb5); clear hb5))
        go_roundg z
        case measure => omega
        case rel =>
          refine ⟨by omega, by go_num, ?_, unhide HX5⟩
          rw [unhide HSC]
          have : scanL (qK (keysO os) l) L (z + 1) = if qK (keysO os) l ((L[z]?).getD (-1)) then (z : Int) else scanL (qK (keysO os) l) L z := rfl
          rw [this, unhide HP]
          exact if_neg (by rw [show ((some (p : Int)).getD (-1)) = (p : Int) from rfl, unhide HQ]; exact Bool.false_ne_true)
end
end Go.Proofs.YtkakncngkmoegaaGreat
/-
  Package place: fostered.
-/
namespace Go.Proofs.YtkakncngkmoegaaGreat
open Go.RowKit

theorem eqSpot (a b c d : Int) (w : World) : (Op.equalIn 10000 159 (.agg #[.int .i64 a, .int .i64 b]) (.agg #[.int .i64 c, .int .i64 d])).run Tryz.prog w = .ok (a == c && b == d) w := by
  have u3 := Tryz.underlying3
  have a3 := Tryz.isAgg3
  have z3 := Tryz.sizeOf3
  have hS : Tryz.prog.underlying 159 = some (.struct (Tryz.prog.fieldsOf 159)) := by kernel_rfl
  have hp : Tryz.prog.stoodInHeld 159 = false := by kernel_rfl
  rw [show (10000 : Nat) = 9999 + 1 from rfl, run_equalIn_agg w 9999 159 _ _ hS hp]
  simp only [Program.fieldsOf, Tryz.underlying159]
  go_simp
  by_cases h0 : a = c <;> by_cases h1 : b = d <;> simp [h0, h1]
section
variable {w wx : World} {obs : List (Ob w.heap.size)} {i j bA bR bK bW : Nat} {os : List OneM} {L : List Int}
theorem lastNamed2 (h : Env w wx obs) (hi : obs[i]? = some (aO _ bA os)) (hj : obs[j]? = some (stOb _ bK bA (keysO os) L)) (hij : i ≠ j) (hg : Good (keysO os) L) :
    Calls Tryz.prog 195 #[.pointer (some ⟨bA, 0, none⟩), .pointer (some ⟨bK, 0, none⟩), .slice (some ⟨wx.heap.size, 0, none⟩) 2 2] (wx.alloc (.cells #[.string tableB, .string tmplB] 9)) fun e w' => (∃ v, e = .returned (.tuple #[.int .i64 (scanL (qK (keysO os) [tableB, tmplB]) L L.length), v]) ∧
      ((scanL (qK (keysO os) [tableB, tmplB]) L L.length = -1 ∧ v = .agg zeroN.cells.toArray) ∨ ∃ (z p : Nat) (o : OneM) (n : NodeM) (ao : Option Addr) (m c : Nat), scanL (qK (keysO os) [tableB, tmplB]) L L.length = (z : Int) ∧ L[z]? = some (p : Int) ∧ os[p]? = some o ∧ v = nodeV n (.slice ao m c) ∧ NodeIs o n)) ∧ Below wx.heap.size wx w' := by
  have := lastNamed_any (h.more (below_new wx (.cells #[.string tableB, .string tmplB] 9))) hi hj hij hg [tableB, tmplB] (by simp) wx.heap.size (tab_new wx [tableB, tmplB] 9)
  refine Calls.mono this ?_
  rintro e w' ⟨h1, hb⟩
  exact ⟨h1, (below_new wx _).trans (hb.mono (by simp))⟩

theorem Sp.drew {w W : World} {b : Nat} {p q : Int} (h : Sp w W b p q) : Sp w W.drew b p q := ⟨h.bel.drew, h.le, h.box⟩
theorem lastN_none (h : Env w wx obs) (hi : obs[i]? = some (aO _ bA os)) (hj : obs[j]? = some (stOb _ bK bA (keysO os) L)) (hij : i ≠ j) (hg : Good (keysO os) L) (hs : scanL (qK (keysO os) [tableB, tmplB]) L L.length = -1) :
    Calls Tryz.prog 195 #[.pointer (some ⟨bA, 0, none⟩), .pointer (some ⟨bK, 0, none⟩), .slice (some ⟨wx.heap.size, 0, none⟩) 2 2] (wx.alloc (.cells #[.string tableB, .string tmplB] 9)) fun e w' => e = .returned (.tuple #[.int .i64 (-1), .agg zeroN.cells.toArray]) ∧ Below wx.heap.size wx w' := by
  refine (lastNamed2 h hi hj hij hg).mono ?_
  rintro e w' ⟨⟨v, rfl, h2⟩, hb⟩
  rcases h2 with ⟨_, rfl⟩ | ⟨z, p, o, n, ao, m, c, h3, _⟩
  · rw [hs]
    exact ⟨rfl, hb⟩
  · omega
theorem lastN_some (h : Env w wx obs) (hi : obs[i]? = some (aO _ bA os)) (hj : obs[j]? = some (stOb _ bK bA (keysO os) L)) (hij : i ≠ j) (hg : Good (keysO os) L) {z p : Nat} {o : OneM} (hs : scanL (qK (keysO os) [tableB, tmplB]) L L.length = (z : Int)) (hz : L[z]? = some (p : Int)) (ho : os[p]? = some o) :
    Calls Tryz.prog 195 #[.pointer (some ⟨bA, 0, none⟩), .pointer (some ⟨bK, 0, none⟩), .slice (some ⟨wx.heap.size, 0, none⟩) 2 2] (wx.alloc (.cells #[.string tableB, .string tmplB] 9)) fun e w' => ∃ (n : NodeM) (ao : Option Addr) (m c : Nat), e = .returned (.tuple #[.int .i64 (z : Int), nodeV n (.slice ao m c)]) ∧ NodeIs o n ∧ Below wx.heap.size wx w' := by
  refine (lastNamed2 h hi hj hij hg).mono ?_
  rintro e w' ⟨⟨v, rfl, h2⟩, hb⟩
  rcases h2 with ⟨h3, _⟩ | ⟨z', p', o', n, ao, m, c, h3, h4, h5, rfl, h6⟩
  · omega
  · obtain rfl : z' = z := by omega
    rw [hz] at h4
    cases h4
    rw [ho] at h5
    cases h5
    rw [hs]
    exact ⟨n, ao, m, c, rfl, h6, hb⟩
set_option maxHeartbeats 1000000 in
set_option maxRecDepth 100000 in
/-- Neither a table nor a template. -/
theorem foster_none (h : Env w wx obs) (hi : obs[i]? = some (aO _ bA os)) (hj : obs[j]? = some (stOb _ bK bA (keysO os) L)) (hij : i ≠ j) (hg : Good (keysO os) L) (t : Int) (hs : scanL (qK (keysO os) [tableB, tmplB]) L L.length = -1) (fa fb : Int) (hfa : fa = atM L 0) (hfb : fb = -1) (ga gb : Int) (hga : (fa = -1 ∧ fb = -1 ∧ ga = t ∧ gb = -1) ∨ (¬ (fa = -1 ∧ fb = -1) ∧ ga = fa ∧ gb = fb)) :
    Calls Tryz.prog 166 #[.pointer (some ⟨bA, 0, none⟩), .pointer (some ⟨bK, 0, none⟩), .int .i64 t] wx fun e w' => e = .returned (spotV ga gb) ∧ Below wx.heap.size wx w' := by
  have HE := hide h
  have HAT := hide (fun W (hW : Env w W obs) (k : Int) => env_at hW hj k)
  have hl3 : ∀ (W0 : World) (ob : Obj), Env w W0 obs → Calls Tryz.prog 195 #[.pointer (some ⟨bA, 0, none⟩), .pointer (some ⟨bK, 0, none⟩), .slice (some ⟨W0.heap.size + 1, 0, none⟩) 2 2] ((W0.alloc ob).alloc (.cells #[.string tableB, .string tmplB] 9)) fun e w' => e = .returned (.tuple #[.int .i64 (-1), .agg zeroN.cells.toArray]) ∧ Below (W0.alloc ob).heap.size (W0.alloc ob) w' := fun W0 ob hW => by
    have := lastN_none (hW.more (below_new W0 ob)) hi hj hij hg hs
    rw [show (some (⟨(W0.alloc ob).heap.size, 0, none⟩ : Addr)) = some ⟨W0.heap.size + 1, 0, none⟩ by simp] at this
    exact this
  have HL := hide hl3
  have HEND := hide (fun (W : World) (x : Int) => atEnd_any W x)
  have hq := fun (a b c d : Int) (W : World) => eqSpot a b c d W
  unfold spotV at HEND ⊢
  unfold tableB tmplB zeroN NodeM.cells at HL
  have HFA := hide hfa
  have HFB := hide hfb
  have HGA := hide hga
  clear h hi hj hg hs hfa hfb hl3 hga
  go_enter Tryz.func166, Tryz.ntmps166
  go_wp2
  refine wp_scope_jumps 0 (fun a' w' => Sp wx w' wx.heap.size 0 0 ∧ ∃ bat : Nat, Sp wx w' bat fa fb ∧ bat ≠ wx.heap.size ∧ ∃ u3 u4 u5 u8 u9 u10 u11 u12 u13 u14 u15 u16 u17 u18 u19 u20 u21 u22 u23 u24 u25 u26 u27 u28 u29 u30 u31 u32 u33 u34 u35 u36 u37 u38 u39 u40 u41 u42 u43 u44 u45 u46 u47 u48 : Value, a' = { tmps := List.toArray ((.pointer (some ⟨bA, 0, none⟩)) :: (.pointer (some ⟨bK, 0, none⟩)) :: (.int .i64 t) :: u3 :: u4 :: u5 :: (.pointer (some ⟨wx.heap.size, 0, none⟩)) :: (.pointer (some ⟨bat, 0, none⟩)) :: u8 :: u9 :: u10 :: u11 :: u12 :: u13 :: u14 :: u15 :: u16 :: u17 :: u18 :: u19 :: u20 :: u21 :: u22 :: u23 :: u24 :: u25 :: u26 :: u27 :: u28 :: u29 :: u30 :: u31 :: u32 :: u33 :: u34 :: u35 :: u36 :: u37 :: u38 :: u39 :: u40 :: u41 :: u42 :: u43 :: u44 :: u45 :: u46 :: u47 :: u48 :: []), defers := [] }) (fun _ _ => 0) rfl ?_ ?_
  · go_wp2_with (first
      | (go_at_call 15; refine ((unhide HAT) _ ((unhide HE).more (below_new _ _)) _).mono ?_; rintro e w2 ⟨rfl, rfl⟩; rw [← unhide HFA])
      | (go_at_call 164; refine ((unhide HEND) _ _).mono ?_; rintro e w3 ⟨rfl, hb⟩; have HR3 := hide (((Sp.new wx 0 0).more hb).alloc (.cells #[.int .i64 fa, .int .i64 (-1)] 159)); have HA3 := hide (show Sp wx (w3.alloc (.cells #[.int .i64 fa, .int .i64 (-1)] 159)) w3.heap.size fa (-1) from ⟨(unhide HR3).bel, (((Sp.new wx 0 0).more hb).bel).size, Box2.new w3 fa (-1)⟩); have HNE := hide (show w3.heap.size ≠ wx.heap.size from by have h1 := hb.size; simp at h1; omega); have HE3 := hide ((unhide HE).more ((Sp.new wx 0 0).more hb).bel); clear hb)
      | (go_at_call 195; refine ((unhide HL) _ _ (unhide HE3)).mono ?_; rintro e w4 ⟨rfl, hb⟩; have HR4 := hide ((unhide HR3).more hb); have HA4 := hide ((unhide HA3).more hb); clear hb))
    go_step3
    exact ⟨rfl, (unhide HR4).alloc _, w3.heap.size, by rw [unhide HFB]; exact (unhide HA4).alloc _, unhide HNE, _, _, _, _, _, _, _, _, _, _, _, _, _, _, _, _, _, _, _, _, _, _, _, _, _, _, _, _, _, _, _, _, _, _, _, _, _, _, _, _, _, _, _, _, rfl⟩
  · rintro a' w' ⟨hR, bat, hA, hne, u3, u4, u5, u8, u9, u10, u11, u12, u13, u14, u15, u16, u17, u18, u19, u20, u21, u22, u23, u24, u25, u26, u27, u28, u29, u30, u31, u32, u33, u34, u35, u36, u37, u38, u39, u40, u41, u42, u43, u44, u45, u46, u47, u48, rfl⟩
    have HR := hide hR
    have HA := hide hA
    obtain ⟨s0, s1, s2, s3⟩ := hA.cells
    clear hR hA
    rcases unhide HGA with ⟨rfl, rfl, rfl, rfl⟩ | ⟨hnn, rfl, rfl⟩
    · go_wp2_with fail
      go_region_with (go_at_call 164; refine ((unhide HEND) _ _).mono ?_; rintro e x2 ⟨rfl, hb⟩; have HR2 : Hid (Sp wx x2 wx.heap.size 0 0) := hide (by first | exact (unhide HR).drew.more hb | exact (unhide HR).more hb); have HA2 : Hid (Sp wx x2 bat _ _) := hide (by first | exact (unhide HA).drew.more hb | exact (unhide HA).more hb); clear hb; obtain ⟨r0, r1, r2, r3⟩ := (unhide HR2).cells; obtain ⟨t0, t1, t2, t3⟩ := (unhide HA2).cells)
      all_goals go_wp2_with (go_at_call 164; refine ((unhide HEND) _ _).mono ?_; rintro e x3 ⟨rfl, hb⟩; have HR3 := hide ((unhide HR2).more hb); clear hb r0 r1 r2 r3; obtain ⟨r0, r1, r2, r3⟩ := (unhide HR3).cells)
      all_goals simp only [Exit.jump]
      all_goals have R := (unhide HR3).put ga (-1)
      all_goals exact bodyPost_ret (spot_ret1 (p := 6) Tryz.results166 (b := wx.heap.size) R.box _ rfl) rfl ⟨rfl, R.bel⟩
    · have hnb : (ga == -1 && gb == -1) = false := by
        rw [Bool.and_eq_false_iff]
        by_cases h1 : ga = -1
        · right; simp; exact fun h2 => hnn ⟨h1, h2⟩
        · left; simp [h1]
      clear hnn
      go_wp2_with fail
      go_region_with (go_at_call 164; refine ((unhide HEND) _ _).mono ?_; rintro e x2 ⟨rfl, hb⟩; have HR2 : Hid (Sp wx x2 wx.heap.size 0 0) := hide (by first | exact (unhide HR).drew.more hb | exact (unhide HR).more hb); have HA2 : Hid (Sp wx x2 bat _ _) := hide (by first | exact (unhide HA).drew.more hb | exact (unhide HA).more hb); clear hb; obtain ⟨r0, r1, r2, r3⟩ := (unhide HR2).cells; obtain ⟨t0, t1, t2, t3⟩ := (unhide HA2).cells)
      all_goals go_wp2
      all_goals simp only [Exit.jump]
      all_goals have R := (unhide HR2).put ga gb
      all_goals exact bodyPost_ret (spot_ret1 (p := 6) Tryz.results166 (b := wx.heap.size) R.box _ rfl) rfl ⟨rfl, R.bel⟩
end
end Go.Proofs.YtkakncngkmoegaaGreat
