/-
  Both lists: the program's entries are the document's, each with what its element is called; what each call makes of both.
-/
import Derived.Test.YtabdgmcajndgbaaSBbd
import Derived.Test.YtabdgmcajndgbaaSBbe
namespace Go.Proofs.Ytabdgmcajndgbaa
open Go.RowKit Go.Sort

def kinOf (ks : List Key) (n : Int) : KinM := (elK ks n).getD kin0
def eOf (ks : List Key) (q : EntQ) : EntM := ⟨q.node, (kinOf ks q.node).sp, (kinOf ks q.node).nm, q.tok⟩
def esOf (ks : List Key) (qs : List EntQ) : List EntM := qs.map (eOf ks)
theorem esOf_len (ks : List Key) (qs : List EntQ) : (esOf ks qs).length = qs.length := by simp [esOf]
theorem esOf_get (ks : List Key) (qs : List EntQ) (i : Nat) : (esOf ks qs)[i]? = (qs[i]?).map (eOf ks) := by simp [esOf]
structure GoodQ (ks : List Key) (qs : List EntQ) : Prop where
  el : ∀ q ∈ qs, q.node = -1 ∨ (elK ks q.node).isSome = true
  once : qs.Pairwise fun x y => x.node = y.node → x.node = -1
  few : ∀ q ∈ qs, q.tok.attrs.length ≤ 2513169434916
theorem elK_key1 {ks : List Key} {id : Int} (h : (elK ks id).isSome = true) : ∃ q, keyAt ks id = some q ∧ q.kind = 1 ∧ elK ks id = some ⟨q.space, q.name⟩ := by
  obtain ⟨q, hq⟩ := elK_keyAt h
  rw [elK_key hq] at h ⊢
  by_cases hk : q.kind = 1
  · rw [if_pos hk]; exact ⟨q, hq, hk, rfl⟩
  · rw [if_neg hk] at h; cases h
theorem elK_neg (ks : List Key) : elK ks (-1) = none := elK_none (by simp [keyAt])
theorem GoodQ.ok {ks : List Key} {qs : List EntQ} (h : GoodQ ks qs) : QOk ks qs := fun x hx => ⟨h.few x hx, (h.el x hx).imp id (fun e => by
  obtain ⟨q, hq⟩ := elK_keyAt e
  rw [hq]; rfl)⟩
theorem GoodQ.nil (ks : List Key) : GoodQ ks [] := ⟨fun _ h => by simp at h, List.Pairwise.nil, fun _ h => by simp at h⟩
theorem GoodQ.sub {ks : List Key} {qs ps : List EntQ} (h : GoodQ ks qs) (hs : ps.Sublist qs) : GoodQ ks ps := ⟨fun q hq => h.el q (hs.subset hq), h.once.sublist hs, fun q hq => h.few q (hs.subset hq)⟩
theorem GoodQ.uniq {ks : List Key} {qs : List EntQ} (h : GoodQ ks qs) {i j : Nat} {x y : EntQ} (hi : qs[i]? = some x) (hj : qs[j]? = some y) (e : x.node = y.node) (hn : x.node ≠ -1) : i = j := by
  obtain ⟨h1, rfl⟩ := List.getElem?_eq_some_iff.1 hi
  obtain ⟨h2, rfl⟩ := List.getElem?_eq_some_iff.1 hj
  rcases Nat.lt_trichotomy i j with k | k | k
  · exact absurd (List.pairwise_iff_getElem.1 h.once i j h1 h2 k e) hn
  · exact k
  · exact absurd ((List.pairwise_iff_getElem.1 h.once j i h2 h1 k e.symm)) (by rw [← e]; exact hn)

-- where an element stands
theorem pairsN_mem {es : List EntM} {y : Nat × Int} : ∀ {n : Nat}, y ∈ pairsN es n → y.1 < n ∧ ∃ x, es[y.1]? = some x ∧ x.node = y.2 ∧ y.2 ≠ -1
  | 0, h => by simp [pairsN] at h
  | n + 1, h => by
    unfold pairsN at h
    rcases List.mem_append.1 h with e | e
    · obtain ⟨h1, h2⟩ := pairsN_mem e
      exact ⟨by omega, h2⟩
    · split at e
      · rename_i x hx
        split at e
        · simp at e
        · rename_i hn
          simp at e; subst e
          exact ⟨Nat.lt_succ_self _, x, hx, rfl, hn⟩
      · simp at e
theorem findP_app {id : Int} : ∀ (l : List (Nat × Int)) {y : Nat × Int}, y.2 ≠ id → findP id (l ++ [y]) = findP id l
  | [], (i, x), h => by simp [findP]; intro e; exact absurd e h
  | (i, x) :: r, y, h => by
    rw [List.cons_append, findP, findP, findP_app r h]
theorem backQ_no {ns : List Int} {id : Int} : ∀ {n : Nat}, backQ ns id n < 0 → ∀ i, i < n → ns[i]? ≠ some id
  | 0, _, i, hi => by omega
  | n + 1, h, i, hi => by
    unfold backQ at h
    split at h
    · omega
    · rename_i hne
      by_cases e : i = n
      · subst e; exact hne
      · exact backQ_no h i (by omega)
theorem backQ_at {ns : List Int} {id : Int} : ∀ {n : Nat}, 0 ≤ backQ ns id n → ns[(backQ ns id n).toNat]? = some id
  | 0, h => by simp [backQ] at h
  | n + 1, h => by
    unfold backQ at h ⊢
    split
    · rename_i e; simpa using e
    · rename_i e
      rw [if_neg e] at h
      exact backQ_at h
theorem findQ_at {qs : List EntQ} {id : Int} (h : 0 ≤ findQ qs id) : id ≠ -1 ∧ ∃ x, qs[(findQ qs id).toNat]? = some x ∧ x.node = id := by
  unfold findQ at h ⊢
  split at h
  · omega
  · rename_i hn
    rw [if_neg hn]
    refine ⟨hn, ?_⟩
    have := backQ_at h
    rw [List.getElem?_map] at this
    cases hx : qs[(backQ (qs.map (·.node)) id qs.length).toNat]? with
    | none => rw [hx] at this; cases this
    | some x => rw [hx] at this; exact ⟨x, rfl, by simpa using this⟩
theorem findQ_no {qs : List EntQ} {id : Int} (h : ¬ 0 ≤ findQ qs id) (hn : id ≠ -1) : ∀ q ∈ qs, q.node ≠ id := by
  intro q hq e
  obtain ⟨i, hi⟩ := List.getElem?_of_mem hq
  have hlt := (List.getElem?_eq_some_iff.1 hi).1
  unfold findQ at h
  rw [if_neg hn] at h
  exact backQ_no (ns := qs.map (·.node)) (id := id) (n := qs.length) (by omega) i hlt (by rw [List.getElem?_map, hi, ← e]; rfl)
theorem place_back {ks : List Key} {qs : List EntQ} (h : GoodQ ks qs) {id : Int} (hid : id ≠ -1) : ∀ n, n ≤ qs.length → findP id (pairsN (esOf ks qs) n) = backQ (qs.map (·.node)) id n
  | 0, _ => rfl
  | n + 1, hn => by
    have ih := place_back h hid n (by omega)
    obtain ⟨x, hx⟩ : ∃ x, qs[n]? = some x := ⟨_, List.getElem?_eq_getElem (by omega)⟩
    have he : (esOf ks qs)[n]? = some (eOf ks x) := by rw [esOf_get, hx]; rfl
    have hnm : (qs.map (·.node))[n]? = some x.node := by rw [List.getElem?_map, hx]; rfl
    unfold pairsN backQ
    rw [he, hnm]
    simp only [Option.some.injEq]
    show findP id (pairsN (esOf ks qs) n ++ (if x.node = -1 then [] else [(n, x.node)])) = _
    by_cases e : x.node = id
    · rw [if_pos e, if_neg (by rw [e]; exact hid)]
      refine findP_some (r := []) (y := (n, x.node)) (fun z hz ez => ?_) e
      obtain ⟨hz1, u, hu, hu2, hu3⟩ := pairsN_mem hz
      rw [esOf_get] at hu
      cases hq : qs[z.1]? with
      | none => rw [hq] at hu; cases hu
      | some y =>
        rw [hq] at hu
        simp only [Option.map_some, Option.some.injEq] at hu
        subst hu
        have h4 : y.node = x.node := by
          have : y.node = z.2 := hu2
          rw [this, ez, e]
        have := h.uniq hq hx h4 (by rw [h4, e]; exact hid)
        omega
    · rw [if_neg e]
      by_cases e1 : x.node = -1
      · rw [if_pos e1, List.append_nil]; exact ih
      · rw [if_neg e1, findP_app _ (show ((n, x.node) : Nat × Int).2 ≠ id from e)]; exact ih
theorem place_find {ks : List Key} {qs : List EntQ} (h : GoodQ ks qs) (id : Int) : placeE (esOf ks qs) id = findQ qs id := by
  unfold placeE findQ
  rw [esOf_len]
  by_cases hid : id = -1
  · rw [if_pos hid]
    refine findP_none fun y hy e => ?_
    obtain ⟨_, _, _, _, h4⟩ := pairsN_mem hy
    exact h4 (by rw [e, hid])
  · rw [if_neg hid]
    exact place_back h hid _ (Nat.le_refl _)
theorem enter_push {ks : List Key} {qs : List EntQ} (h : GoodQ ks qs) (id : Int) : enterE ks (esOf ks qs) id = pushR ks qs id := by
  unfold enterE pushR
  rw [place_find h]
theorem enterK_kin {ks : List Key} {qs : List EntQ} (h : GoodQ ks qs) {id : Int} (h0 : pushR ks qs id = 0) : enterK ks (esOf ks qs) id = kinOf ks id := by
  unfold enterK
  rw [enter_push h, if_pos h0]; rfl
theorem newE_of {ks : List Key} {qs : List EntQ} (h : GoodQ ks qs) {id : Int} (h0 : pushR ks qs id = 0) (t : TokM) (a : Option Addr) (c : Nat) : newE ks (esOf ks qs) id t = eOf ks ⟨id, t, a, c⟩ := by
  unfold newE eOf
  rw [enterK_kin h h0]
theorem push_zero {ks : List Key} {qs : List EntQ} {id : Int} (h0 : pushR ks qs id = 0) : (elK ks id).isSome = true ∧ ¬ 0 ≤ findQ qs id := by
  unfold pushR at h0
  split at h0
  · rename_i h1
    split at h0
    · cases h0
    · rename_i h2; exact ⟨h1, h2⟩
  · cases h0

-- alike
theorem alike_of {ks : List Key} {x y : EntQ} (hx : (elK ks x.node).isSome = true) (hy : (elK ks y.node).isSome = true) : alikeM (eOf ks x) (eOf ks y) = alikeQ ks y x := by
  obtain ⟨p, p1, p2, p3⟩ := elK_key1 hx
  obtain ⟨q, q1, q2, q3⟩ := elK_key1 hy
  have e1 : kinOf ks x.node = ⟨p.space, p.name⟩ := by unfold kinOf; rw [p3]; rfl
  have e2 : kinOf ks y.node = ⟨q.space, q.name⟩ := by unfold kinOf; rw [q3]; rfl
  unfold alikeM alikeQ eOf
  simp only [p1, q1, e1, e2, kinB]
  rw [Bool.eq_iff_iff]
  simp only [Bool.and_eq_true, decide_eq_true_eq, beq_iff_eq, eqL_iff, setsB_iff]
  constructor
  · rintro ⟨⟨h1, h2⟩, h3⟩
    exact ⟨⟨by rw [h2], h1.symm⟩, h3.symm⟩
  · rintro ⟨⟨h1, h2⟩, h3⟩
    exact ⟨⟨h2.symm, (bytes_ext h1).symm⟩, h3.symm⟩
theorem scan_of {ks : List Key} {qs : List EntQ} (h : GoodQ ks qs) {x : EntQ} (hx : (elK ks x.node).isSome = true) : ∀ (n : Nat) (m f : Int), n ≤ qs.length → scanE (eOf ks x) (esOf ks qs) n (f, m) = ((scanQ ks qs x n m f).2, (scanQ ks qs x n m f).1)
  | 0, m, f, _ => rfl
  | n + 1, m, f, hn => by
    obtain ⟨y, hy⟩ : ∃ y, qs[n]? = some y := ⟨_, List.getElem?_eq_getElem (by omega)⟩
    have he : (esOf ks qs)[n]? = some (eOf ks y) := by rw [esOf_get, hy]; rfl
    unfold scanE scanQ
    rw [he, hy]
    simp only
    show (if y.node = -1 then (f, m) else _) = _
    by_cases e : y.node = -1
    · rw [if_pos e, if_pos e]
    · rw [if_neg e, if_neg e]
      have hye : (elK ks y.node).isSome = true := (h.el y (List.mem_of_getElem? hy)).resolve_left e
      rw [alike_of hx hye]
      by_cases ha : alikeQ ks y x = true
      · rw [if_pos ha, if_pos ha]
        exact scan_of h hx n (m + 1) (n : Int) (by omega)
      · rw [if_neg ha, if_neg ha]
        exact scan_of h hx n m f (by omega)
theorem del_take (ks : List Key) (qs : List EntQ) (i : Nat) : (esOf ks qs).take i ++ (esOf ks qs).drop (i + 1) = esOf ks (qs.take i ++ qs.drop (i + 1)) := by simp [esOf]
theorem sur_less {ks : List Key} {qs : List EntQ} (h : GoodQ ks qs) {x : EntQ} (hx : (elK ks x.node).isSome = true) : delE (esOf ks qs) (surE (eOf ks x) (esOf ks qs)) = esOf ks (lessQ qs (scanQ ks qs x qs.length 0 (-1))) := by
  have hs := scan_of h hx qs.length 0 (-1) (Nat.le_refl _)
  have hok := scanQ_ok ks qs x qs.length qs.length 0 (-1) (Nat.le_refl _) (.inl rfl)
  unfold surE
  rw [esOf_len, hs]
  generalize scanQ ks qs x qs.length 0 (-1) = r at hok
  simp only
  unfold delE lessQ
  by_cases h3 : 3 ≤ r.1
  · rw [if_pos h3, if_neg (show ¬ r.1 < 3 by omega)]
    rcases hok with e | e
    · omega
    · rw [if_pos e.1, del_take]
  · rw [if_neg h3, if_pos (show r.1 < 3 by omega), if_neg (by omega)]
theorem push_of {ks : List Key} {qs : List EntQ} (h : GoodQ ks qs) (id : Int) (t : TokM) (a : Option Addr) (c : Nat) : pushE ks (esOf ks qs) id t = esOf ks (pushQ ks qs id t a c) := by
  unfold pushE pushQ
  rw [enter_push h]
  by_cases h0 : pushR ks qs id = 0
  · rw [if_pos h0, if_pos h0, newE_of h h0 t a c, sur_less h (x := ⟨id, t, a, c⟩) (push_zero h0).1]
    simp [esOf]
  · rw [if_neg h0, if_neg h0]
theorem drop_more {α : Type} (l : List α) (n : Nat) : (l.drop (n + 1)).Sublist (l.drop n) := by
  rw [show l.drop (n + 1) = (l.drop n).drop 1 by rw [List.drop_drop]]
  exact List.drop_sublist _ _
theorem less_sub (qs : List EntQ) (r : Int × Int) : (lessQ qs r).Sublist qs := by
  unfold lessQ
  split
  · conv => rhs; rw [← List.take_append_drop r.2.toNat qs]
    refine List.Sublist.append (List.Sublist.refl _) (drop_more _ _)
  · exact List.Sublist.refl _
theorem GoodQ.more {ks : List Key} {a b : List EntQ} {x : EntQ} (h : GoodQ ks (a ++ b)) (hx : (elK ks x.node).isSome = true) (hno : ∀ q ∈ a ++ b, q.node ≠ x.node) (hf : x.tok.attrs.length ≤ 2513169434916) : GoodQ ks (a ++ x :: b) := by
  have hp := List.pairwise_append.1 h.once
  refine ⟨fun q hq => ?_, List.pairwise_append.2 ⟨hp.1, List.pairwise_cons.2 ⟨fun y hy e => absurd e.symm (hno y (List.mem_append.2 (.inr hy))), hp.2.1⟩, fun y hy z hz e => ?_⟩, fun q hq => ?_⟩
  · rcases List.mem_append.1 hq with e | e
    · exact h.el q (List.mem_append.2 (.inl e))
    · rcases List.mem_cons.1 e with rfl | e
      · exact .inr hx
      · exact h.el q (List.mem_append.2 (.inr e))
  · rcases List.mem_cons.1 hz with rfl | hz
    · exact absurd e (hno y (List.mem_append.2 (.inl hy)))
    · exact hp.2.2 y hy z hz e
  · rcases List.mem_append.1 hq with e | e
    · exact h.few q (List.mem_append.2 (.inl e))
    · rcases List.mem_cons.1 e with rfl | e
      · exact hf
      · exact h.few q (List.mem_append.2 (.inr e))
theorem el_ne {ks : List Key} {id : Int} (h : (elK ks id).isSome = true) : id ≠ -1 := fun e => by rw [e, elK_neg] at h; cases h
theorem GoodQ.push {ks : List Key} {qs : List EntQ} (h : GoodQ ks qs) (id : Int) (t : TokM) (a : Option Addr) (c : Nat) (hf : t.attrs.length ≤ 2513169434916) : GoodQ ks (pushQ ks qs id t a c) ∧ (pushQ ks qs id t a c).length ≤ qs.length + 1 := by
  unfold pushQ
  by_cases h0 : pushR ks qs id = 0
  · rw [if_pos h0]
    obtain ⟨h1, h2⟩ := push_zero h0
    have hs := less_sub qs (scanQ ks qs ⟨id, t, a, c⟩ qs.length 0 (-1))
    refine ⟨?_, by have := hs.length_le; simp; omega⟩
    have hg := h.sub hs
    have hno := findQ_no h2 (el_ne h1)
    have := GoodQ.more (a := lessQ qs (scanQ ks qs ⟨id, t, a, c⟩ qs.length 0 (-1))) (b := []) (x := ⟨id, t, a, c⟩) (by rw [List.append_nil]; exact hg) h1 (fun q hq => hno q (hs.subset (by rw [List.append_nil] at hq; exact hq))) hf
    exact this
  · rw [if_neg h0]; exact ⟨h, by omega⟩

-- the other calls
theorem GoodQ.mark {ks : List Key} {qs : List EntQ} (h : GoodQ ks qs) : GoodQ ks (qs ++ [markQ]) := by
  refine ⟨fun q hq => ?_, List.pairwise_append.2 ⟨h.once, List.pairwise_singleton _ _, fun x hx y hy e => ?_⟩, fun q hq => ?_⟩
  · rcases List.mem_append.1 hq with e | e
    · exact h.el q e
    · simp at e; subst e; exact .inl rfl
  · simp at hy; subst hy; exact e
  · rcases List.mem_append.1 hq with e | e
    · exact h.few q e
    · simp at e; subst e; simp [markQ, tok0]
theorem mark_of (ks : List Key) (qs : List EntQ) : esOf ks qs ++ [mark0] = esOf ks (qs ++ [markQ]) := by
  have e : eOf ks markQ = mark0 := by
    unfold eOf kinOf markQ
    simp only [elK_neg]
    rfl
  simp [esOf, e]
theorem left_keep (ks : List Key) (qs : List EntQ) : ∀ n, (lastM (esOf ks qs) n).toNat = keepQ qs n ∨ qs.length < n
  | 0 => .inl rfl
  | n + 1 => by
    by_cases hn : n < qs.length
    · have ih := (left_keep ks qs n).resolve_right (by omega)
      obtain ⟨y, hy⟩ : ∃ y, qs[n]? = some y := ⟨_, List.getElem?_eq_getElem hn⟩
      have he : (esOf ks qs)[n]? = some (eOf ks y) := by rw [esOf_get, hy]; rfl
      left
      unfold lastM keepQ
      rw [he, hy]
      simp only
      show (if y.node = -1 then (n : Int) else _).toNat = _
      split
      · rfl
      · exact ih
    · exact .inr (by omega)
theorem leftN_keep (ks : List Key) (qs : List EntQ) : leftN (esOf ks qs) = keepQ qs qs.length := by
  unfold leftN
  rw [esOf_len]
  exact (left_keep ks qs qs.length).resolve_right (by omega)
theorem take_of (ks : List Key) (qs : List EntQ) (n : Nat) : (esOf ks qs).take n = esOf ks (qs.take n) := by simp [esOf]
theorem last_of {ks : List Key} {qs : List EntQ} (h : GoodQ ks qs) (nm : ByteArray) : ∀ n, n ≤ qs.length → lastE nm (esOf ks qs) n = lastQ ks nm qs n
  | 0, _ => rfl
  | n + 1, hn => by
    have ih := last_of h nm n (by omega)
    obtain ⟨y, hy⟩ : ∃ y, qs[n]? = some y := ⟨_, List.getElem?_eq_getElem (by omega)⟩
    have he : (esOf ks qs)[n]? = some (eOf ks y) := by rw [esOf_get, hy]; rfl
    unfold lastE lastQ
    rw [he, hy]
    simp only
    show (if y.node = -1 then -1 else _) = _
    by_cases e : y.node = -1
    · rw [if_pos e, if_pos e]
    · rw [if_neg e, if_neg e]
      have hye : (elK ks y.node).isSome = true := (h.el y (List.mem_of_getElem? hy)).resolve_left e
      obtain ⟨p, p1, p2, p3⟩ := elK_key1 hye
      rw [p1]
      simp only
      have e1 : kinOf ks y.node = ⟨p.space, p.name⟩ := by unfold kinOf; rw [p3]; rfl
      have e2 : kinB (eOf ks y).sp 0 (eOf ks y).nm nm = (p.space == 0 && p.name.toList == nm.toList) := by
        unfold eOf kinB
        simp only [e1]
        rw [Bool.eq_iff_iff]
        simp only [Bool.and_eq_true, decide_eq_true_eq, beq_iff_eq]
        exact ⟨fun ⟨a, b⟩ => ⟨a, by rw [b]⟩, fun ⟨a, b⟩ => ⟨a, bytes_ext b⟩⟩
      rw [e2, ih]
      rfl
theorem rem_of {ks : List Key} {qs : List EntQ} (h : GoodQ ks qs) (id : Int) : remA (esOf ks qs) id = remR qs id ∧ delE (esOf ks qs) (placeE (esOf ks qs) id) = esOf ks (remQ qs id) := by
  unfold remA remR remQ delE
  rw [place_find h]
  refine ⟨rfl, ?_⟩
  split
  · exact del_take ks qs _
  · rfl
theorem rem_sub (qs : List EntQ) (id : Int) : (remQ qs id).Sublist qs := by
  unfold remQ
  split
  · conv => rhs; rw [← List.take_append_drop (findQ qs id).toNat qs]
    refine List.Sublist.append (List.Sublist.refl _) (drop_more _ _)
  · exact List.Sublist.refl _
def putRq (ks : List Key) (qs : List EntQ) (i : Int) (id : Int) : Int := if (elK ks id).isSome = true then (if 0 ≤ findQ qs id ∨ i < 0 ∨ (qs.length : Int) < i then 1 else 0) else 6
def putQ (ks : List Key) (qs : List EntQ) (i : Int) (id : Int) (t : TokM) (a : Option Addr) (c : Nat) : List EntQ := if putRq ks qs i id = 0 then qs.take i.toNat ++ ⟨id, t, a, c⟩ :: qs.drop i.toNat else qs
theorem put_of {ks : List Key} {qs : List EntQ} (h : GoodQ ks qs) (i id : Int) (t : TokM) (a : Option Addr) (c : Nat) : putA ks (esOf ks qs) i id = putRq ks qs i id ∧ putE ks (esOf ks qs) i id t = esOf ks (putQ ks qs i id t a c) := by
  have e1 : putA ks (esOf ks qs) i id = putRq ks qs i id := by
    unfold putA putRq
    rw [enter_push h, esOf_len]
    unfold pushR
    by_cases h1 : (elK ks id).isSome = true
    · rw [if_pos h1, if_pos h1]
      by_cases h2 : 0 ≤ findQ qs id
      · simp [h2]
      · simp [h2]
    · rw [if_neg h1, if_neg h1]; rfl
  refine ⟨e1, ?_⟩
  unfold putE putQ
  rw [e1]
  by_cases h0 : putRq ks qs i id = 0
  · rw [if_pos h0, if_pos h0]
    have hp : pushR ks qs id = 0 := by
      unfold putRq at h0
      unfold pushR
      split at h0
      · rename_i h1
        rw [if_pos h1]
        split at h0
        · cases h0
        · rename_i h2
          rw [if_neg (fun e => h2 (.inl e))]
      · cases h0
    rw [newE_of h hp t a c]
    simp [esOf]
  · rw [if_neg h0, if_neg h0]
theorem GoodQ.put {ks : List Key} {qs : List EntQ} (h : GoodQ ks qs) (i id : Int) (t : TokM) (a : Option Addr) (c : Nat) (hf : t.attrs.length ≤ 2513169434916) : GoodQ ks (putQ ks qs i id t a c) ∧ (putQ ks qs i id t a c).length ≤ qs.length + 1 := by
  unfold putQ
  by_cases h0 : putRq ks qs i id = 0
  · rw [if_pos h0]
    have h1 : (elK ks id).isSome = true ∧ ¬ 0 ≤ findQ qs id := by
      unfold putRq at h0
      split at h0
      · rename_i h1
        split at h0
        · cases h0
        · rename_i h2; exact ⟨h1, fun e => h2 (.inl e)⟩
      · cases h0
    have hno := findQ_no h1.2 (el_ne h1.1)
    refine ⟨GoodQ.more (x := ⟨id, t, a, c⟩) (by rw [List.take_append_drop]; exact h) h1.1 (fun q hq => hno q (by rw [List.take_append_drop] at hq; exact hq)) hf, ?_⟩
    rw [List.length_append, List.length_cons]
    have := congrArg List.length (List.take_append_drop i.toNat qs)
    rw [List.length_append] at this
    omega
  · rw [if_neg h0]; exact ⟨h, by omega⟩
def swRq (ks : List Key) (qs : List EntQ) (old id : Int) : Int := if (elK ks id).isSome = true ∧ 0 ≤ findQ qs old then (if 0 ≤ findQ qs id then 1 else 0) else 6
def reQ (x : EntQ) (id : Int) : EntQ := ⟨id, x.tok, x.a, x.c⟩
def swQ (ks : List Key) (qs : List EntQ) (old id : Int) : List EntQ := if swRq ks qs old id = 0 then qs.take (findQ qs old).toNat ++ reQ (qs.getD (findQ qs old).toNat markQ) id :: qs.drop ((findQ qs old).toNat + 1) else qs
theorem sw_zero {ks : List Key} {qs : List EntQ} {old id : Int} (h0 : swRq ks qs old id = 0) : (elK ks id).isSome = true ∧ 0 ≤ findQ qs old ∧ ¬ 0 ≤ findQ qs id := by
  unfold swRq at h0
  split at h0
  · rename_i h1
    split at h0
    · cases h0
    · rename_i h2; exact ⟨h1.1, h1.2, h2⟩
  · cases h0
theorem sw_of {ks : List Key} {qs : List EntQ} (h : GoodQ ks qs) (old id : Int) : swapA ks (esOf ks qs) old id = swRq ks qs old id ∧ swapE ks (esOf ks qs) old id = esOf ks (swQ ks qs old id) := by
  have e1 : swapA ks (esOf ks qs) old id = swRq ks qs old id := by
    unfold swapA swRq
    rw [enter_push h, place_find h]
    unfold pushR
    by_cases h1 : (elK ks id).isSome = true
    · by_cases h2 : 0 ≤ findQ qs old
      · have h3 : ¬ findQ qs old < 0 := by omega
        simp only [if_neg h3, if_pos h1, if_pos (And.intro h1 h2)]
      · have h3 : findQ qs old < 0 := by omega
        have h4 : ¬ ((elK ks id).isSome = true ∧ 0 ≤ findQ qs old) := fun e => h2 e.2
        simp only [if_pos h3, if_neg h4]
    · have h4 : ¬ ((elK ks id).isSome = true ∧ 0 ≤ findQ qs old) := fun e => h1 e.1
      simp only [if_neg h1, if_neg h4]
      split <;> rfl
  refine ⟨e1, ?_⟩
  unfold swapE swQ
  rw [e1]
  by_cases h0 : swRq ks qs old id = 0
  · rw [if_pos h0, if_pos h0]
    obtain ⟨h1, h2, h3⟩ := sw_zero h0
    obtain ⟨_, x, hx, _⟩ := findQ_at h2
    have hp : pushR ks qs id = 0 := by unfold pushR; rw [if_pos h1, if_neg h3]
    rw [place_find h, enterK_kin h hp]
    generalize (findQ qs old).toNat = n at *
    have hlt := (List.getElem?_eq_some_iff.1 hx).1
    have g1 : (esOf ks qs).getD n mark0 = eOf ks x := by rw [List.getD_eq_getElem?_getD, esOf_get, hx]; rfl
    have g2 : qs.getD n markQ = x := by rw [List.getD_eq_getElem?_getD, hx]; rfl
    rw [g1, g2, List.set_eq_take_append_cons_drop, if_pos (by rw [esOf_len]; exact hlt)]
    have g3 : kinE (eOf ks x) id (kinOf ks id) = eOf ks (reQ x id) := rfl
    rw [g3]
    simp [esOf]
  · rw [if_neg h0, if_neg h0]
theorem GoodQ.swap {ks : List Key} {qs : List EntQ} (h : GoodQ ks qs) (old id : Int) : GoodQ ks (swQ ks qs old id) ∧ (swQ ks qs old id).length ≤ qs.length := by
  unfold swQ
  by_cases h0 : swRq ks qs old id = 0
  · rw [if_pos h0]
    obtain ⟨h1, h2, h3⟩ := sw_zero h0
    obtain ⟨_, x, hx, _⟩ := findQ_at h2
    have hno := findQ_no h3 (el_ne h1)
    generalize (findQ qs old).toNat = n at *
    have hlt := (List.getElem?_eq_some_iff.1 hx).1
    have g2 : qs.getD n markQ = x := by rw [List.getD_eq_getElem?_getD, hx]; rfl
    rw [g2]
    have hs : (qs.take n ++ qs.drop (n + 1)).Sublist qs := by
      conv => rhs; rw [← List.take_append_drop n qs]
      refine List.Sublist.append (List.Sublist.refl _) (drop_more _ _)
    refine ⟨GoodQ.more (x := reQ x id) (h.sub hs) h1 (fun q hq => hno q (hs.subset hq)) (h.few x (List.mem_of_getElem? hx)), ?_⟩
    rw [List.length_append, List.length_cons, List.length_take, List.length_drop]
    omega
  · rw [if_neg h0]; exact ⟨h, Nat.le_refl _⟩
end Go.Proofs.Ytabdgmcajndgbaa
