import Derived.Test.YtkakncngkmoegaaGreatXGp
/-
  Plain: what the agency's steps leave as it was meant to be.
-/
namespace Go.Proofs.YtkakncngkmoegaaGreat
open Go.RowKit

-- places in the list
theorem mem_pairs {es : List EntM} {i : Nat} {x : EntM} (h : es[i]? = some x) (hx : x.node ≠ -1) : ∀ {n : Nat}, i < n → (i, x.node) ∈ pairsN es n
  | 0, hi => absurd hi (Nat.not_lt_zero _)
  | n + 1, hi => by
    rw [pairsN]
    by_cases e : i = n
    · subst e
      rw [h]
      simp [hx]
    · exact List.mem_append_left _ (mem_pairs h hx (by omega))
theorem pairs_mem {es : List EntM} {y : Nat × Int} : ∀ {n : Nat}, y ∈ pairsN es n → ∃ x, es[y.1]? = some x ∧ x.node = y.2 ∧ y.2 ≠ -1
  | 0, h => by simp [pairsN] at h
  | n + 1, h => by
    rw [pairsN] at h
    rcases List.mem_append.1 h with h | h
    · exact pairs_mem h
    · cases e : es[n]? with
      | none => rw [e] at h; simp at h
      | some x =>
        rw [e] at h
        simp only at h
        split at h
        · simp at h
        · rename_i hx
          simp only [List.mem_singleton] at h
          subst h
          exact ⟨x, e, rfl, hx⟩
theorem findP_mem {id : Int} : ∀ {l : List (Nat × Int)}, 0 ≤ findP id l → ∃ i : Nat, findP id l = (i : Int) ∧ (i, id) ∈ l
  | [], h => by simp [findP] at h
  | (i, x) :: r, h => by
    unfold findP at h ⊢
    by_cases e : x = id
    · rw [if_pos e]
      subst e
      exact ⟨i, rfl, by simp⟩
    · rw [if_neg e] at h ⊢
      obtain ⟨j, h1, h2⟩ := findP_mem h
      exact ⟨j, h1, List.mem_cons_of_mem _ h2⟩
theorem findP_of {id : Int} {i : Nat} : ∀ {l : List (Nat × Int)}, (i, id) ∈ l → 0 ≤ findP id l
  | [], h => by simp at h
  | (j, x) :: r, h => by
    unfold findP
    by_cases e : x = id
    · rw [if_pos e]; omega
    · rw [if_neg e]
      rcases List.mem_cons.1 h with h | h
      · cases h; exact absurd rfl e
      · exact findP_of h
theorem place_at {es : List EntM} {id : Int} (h : 0 ≤ placeE es id) : ∃ (i : Nat) (x : EntM), placeE es id = (i : Int) ∧ es[i]? = some x ∧ x.node = id ∧ id ≠ -1 := by
  obtain ⟨i, h1, h2⟩ := findP_mem h
  obtain ⟨x, h3, h4, h5⟩ := pairs_mem h2
  exact ⟨i, x, h1, h3, h4, h5⟩
theorem place_of {es : List EntM} {id : Int} {x : EntM} (hx : x ∈ es) (hn : x.node = id) (h : id ≠ -1) : 0 ≤ placeE es id := by
  obtain ⟨i, hi⟩ := List.getElem?_of_mem hx
  have := mem_pairs hi (by rw [hn]; exact h) (n := es.length) (List.getElem?_eq_some_iff.1 hi).1
  rw [hn] at this
  exact findP_of this
theorem tokE_at {es : List EntM} {id : Int} {i : Nat} {x : EntM} (h : placeE es id = (i : Int)) (hi : es[i]? = some x) : tokE es id = x.tok := by
  unfold tokE
  rw [h, Int.toNat_natCast, List.getD_eq_getElem?_getD, hi]
  rfl
theorem lastE_mem {nm : ByteArray} {es : List EntM} : ∀ n, lastE nm es n = -1 ∨ ∃ x ∈ es, x.node = lastE nm es n ∧ x.node ≠ -1
  | 0 => .inl rfl
  | n + 1 => by
    unfold lastE
    cases e : es[n]? with
    | none => exact .inl rfl
    | some y =>
      simp only
      split
      · exact .inl rfl
      · split
        · exact .inr ⟨y, List.mem_of_getElem? e, rfl, by assumption⟩
        · exact lastE_mem n
theorem place_last {nm : ByteArray} {es : List EntM} {n : Nat} (h : lastE nm es n ≠ -1) : 0 ≤ placeE es (lastE nm es n) := by
  rcases lastE_mem (nm := nm) (es := es) n with e | ⟨x, hx, hn, h1⟩
  · exact absurd e h
  · exact place_of hx hn (by rw [← hn]; exact h1)
theorem delE_sub (es : List EntM) (i : Int) : ∀ x ∈ delE es i, x ∈ es := by
  intro x hx
  unfold delE at hx
  split at hx
  · rcases List.mem_append.1 hx with h | h
    · exact List.mem_of_mem_take h
    · exact List.mem_of_mem_drop h
  · exact hx
theorem delE_leG (es : List EntM) (i : Int) : (delE es i).length ≤ es.length := by
  unfold delE
  split
  · simp only [List.length_append, List.length_take, List.length_drop]
    omega
  · exact Nat.le_refl _
theorem delE_lt {es : List EntM} {n : Int} (h : 0 ≤ placeE es n) : (delE es (placeE es n)).length + 1 = es.length := by
  obtain ⟨i, x, e, hx, _⟩ := place_at h
  have := (List.getElem?_eq_some_iff.1 hx).1
  unfold delE
  rw [if_pos h, e, Int.toNat_natCast]
  simp only [List.length_append, List.length_take, List.length_drop]
  omega
/-- What has an entry still has one, where another's goes. -/
theorem place_del {es : List EntM} {f n : Int} (hf : 0 ≤ placeE es f) (hne : n ≠ f) : 0 ≤ placeE (delE es (placeE es n)) f := by
  by_cases h : 0 ≤ placeE es n
  · obtain ⟨i, x, e, hx, hxn, _⟩ := place_at h
    obtain ⟨j, y, e2, hy, hyn, hf1⟩ := place_at hf
    refine place_of (x := y) ?_ hyn hf1
    unfold delE
    rw [if_pos h, e, Int.toNat_natCast]
    have hij : j ≠ i := fun e => by
      subst e
      rw [hx] at hy
      cases hy
      exact hne (hxn.symm.trans hyn)
    by_cases hlt : j < i
    · exact List.mem_append_left _ (List.mem_of_getElem? (i := j) (by rw [List.getElem?_take, if_pos hlt]; exact hy))
    · exact List.mem_append_right _ (List.mem_of_getElem? (i := j - (i + 1)) (by rw [List.getElem?_drop, show i + 1 + (j - (i + 1)) = j by omega]; exact hy))
  · unfold delE
    rw [if_neg h]
    exact hf
theorem place_swap {ks : List Key} {es : List EntM} {f old id : Int} (hf : 0 ≤ placeE es f) (hne : old ≠ f) : 0 ≤ placeE (swapEAc ks es old id) f := by
  unfold swapEAc
  split
  · rename_i h
    unfold swapA at h
    split at h
    · cases h
    · rename_i ho
      obtain ⟨i, x, e, hx, hxn, _⟩ := place_at (es := es) (id := old) (by omega)
      obtain ⟨j, y, e2, hy, hyn, hf1⟩ := place_at hf
      refine place_of (x := y) ?_ hyn hf1
      rw [e, Int.toNat_natCast]
      have hij : i ≠ j := fun e => by
        subst e
        rw [hx] at hy
        cases hy
        exact hne (hxn.symm.trans hyn)
      exact List.mem_of_getElem? (i := j) (by rw [List.getElem?_set_ne hij]; exact hy)
  · exact hf

-- the tree
theorem unlinkR_len (os : List OneM) (c : Int) : (unlinkR os c).length = os.length := by
  unfold unlinkR
  split
  · exact unlinkO_len _ _ _
  · rfl
theorem unlinkR_same (os : List OneM) (c : Int) (i : Nat) : (unlinkR os c)[i]? = os[i]? ∨ ∃ o o', os[i]? = some o ∧ (unlinkR os c)[i]? = some o' ∧ o'.inner = o.inner ∧ o'.kind = o.kind ∧ o'.space = o.space ∧ o'.name = o.name := by
  unfold unlinkR
  split
  · rw [unlinkO_get]
    cases h : os[i]? with
    | none => exact .inl rfl
    | some o => exact .inr ⟨o, _, rfl, rfl, rfl, rfl, rfl, rfl⟩
  · exact .inl rfl
theorem linkR_same (os : List OneM) (p c b : Int) (i : Nat) : (linkR os p c b)[i]? = os[i]? ∨ ∃ o o', os[i]? = some o ∧ (linkR os p c b)[i]? = some o' ∧ o'.inner = o.inner ∧ o'.kind = o.kind ∧ o'.space = o.space ∧ o'.name = o.name := by
  unfold linkR
  split
  · rw [linkO_get]
    cases h : os[i]? with
    | none => exact .inl rfl
    | some o => exact .inr ⟨o, _, rfl, rfl, rfl, rfl, rfl, rfl⟩
  · exact .inl rfl
/-- Nodes that differ in their links alone. -/
structure Kin (os os' : List OneM) : Prop where
  len : os'.length = os.length
  at' : ∀ i : Nat, os'[i]? = os[i]? ∨ ∃ o o', os[i]? = some o ∧ os'[i]? = some o' ∧ o'.inner = o.inner ∧ o'.kind = o.kind ∧ o'.space = o.space ∧ o'.name = o.name
theorem Kin.refl (os : List OneM) : Kin os os := ⟨rfl, fun _ => .inl rfl⟩
theorem Kin.get {os os' : List OneM} (h : Kin os os') {i : Nat} {o : OneM} (ho : os[i]? = some o) : ∃ o', os'[i]? = some o' ∧ o'.inner = o.inner ∧ o'.kind = o.kind ∧ o'.space = o.space ∧ o'.name = o.name := by
  rcases h.at' i with e | ⟨o1, o2, h1, h2, h3⟩
  · exact ⟨o, e.trans ho, rfl, rfl, rfl, rfl⟩
  · rw [ho] at h1; cases h1; exact ⟨o2, h2, h3⟩
theorem Kin.back {os os' : List OneM} (h : Kin os os') {i : Nat} {o' : OneM} (ho : os'[i]? = some o') : ∃ o, os[i]? = some o ∧ o'.inner = o.inner ∧ o'.kind = o.kind ∧ o'.space = o.space ∧ o'.name = o.name := by
  rcases h.at' i with e | ⟨o1, o2, h1, h2, h3⟩
  · exact ⟨o', e.symm.trans ho, rfl, rfl, rfl, rfl⟩
  · rw [ho] at h2; cases h2; exact ⟨o1, h1, h3⟩
theorem Kin.trans {a b c : List OneM} (h1 : Kin a b) (h2 : Kin b c) : Kin a c := by
  refine ⟨h2.len.trans h1.len, fun i => ?_⟩
  cases ha : a[i]? with
  | none =>
    left
    rw [List.getElem?_eq_none_iff] at ha ⊢
    rw [h2.len, h1.len]; exact ha
  | some o =>
    obtain ⟨o1, e1, p1, p2, p3, p4⟩ := h1.get ha
    obtain ⟨o2, e2, q1, q2, q3, q4⟩ := h2.get e1
    exact .inr ⟨o, o2, rfl, e2, q1.trans p1, q2.trans p2, q3.trans p3, q4.trans p4⟩
theorem kin_unlink (os : List OneM) (c : Int) : Kin os (unlinkR os c) := ⟨unlinkR_len os c, unlinkR_same os c⟩
theorem kin_link (os : List OneM) (p c b : Int) : Kin os (linkR os p c b) := ⟨linkR_len os p c b, linkR_same os p c b⟩
theorem kin_spot (os : List OneM) (p q id : Int) : Kin os (spotR os p q id) := (kin_unlink os id).trans (kin_link _ _ _ _)
theorem Kin.keys {os os' : List OneM} (h : Kin os os') : keysO os' = keysO os := by
  unfold keysO
  refine List.ext_getElem? fun i => ?_
  rw [List.getElem?_map, List.getElem?_map]
  cases ho : os[i]? with
  | none =>
    have : os'[i]? = none := by
      rw [List.getElem?_eq_none_iff] at ho ⊢
      rw [h.len]; exact ho
    rw [this]
  | some o =>
    obtain ⟨o', e, _, p2, p3, p4⟩ := h.get ho
    rw [e]
    simp only [Option.map_some, keyO, p2, p3, p4]
theorem Kin.oneI {os os' : List OneM} (h : Kin os os') (hi : ∀ o ∈ os, OneI o) : ∀ o ∈ os', OneI o := by
  intro o' ho
  obtain ⟨i, hi'⟩ := List.getElem?_of_mem ho
  obtain ⟨o, e, p1, p2, p3, p4⟩ := h.back hi'
  exact (hi o (List.mem_of_getElem? e)).same p1 p2 p3 p4
theorem Kin.has {os os' : List OneM} (h : Kin os os') (k : Int) : hasO os' k = hasO os k := by simp [hasO, h.len]

/-- A new element of HTML without attributes. -/
theorem elemO_new {os : List OneM} {nm : ByteArray} (hr : os.length + 2 ≤ 32768) (hn : longS nm = false) : ∃ ms, (elemO os 0 nm []).1 = os ++ ms ∧ (elemO os 0 nm []).2.1 = (os.length : Int) ∧ (elemO os 0 nm []).2.2 = 0 ∧ 0 < ms.length ∧ ms.length ≤ 2 ∧ (∀ o ∈ ms, OneI o) ∧ keyAt (keysO (os ++ ms)) (os.length : Int) = some ⟨1, 0, nm⟩ := by
  have hk : ∀ q ms, keyO q = ⟨1, 0, nm⟩ → keyAt (keysO (os ++ q :: ms)) (os.length : Int) = some ⟨1, 0, nm⟩ := by
    intro q ms h
    simp [keyAt, keysO, h]
  obtain ⟨ms, h1, h2, h3⟩ := elemO_grow os nm
  unfold elemO at h1 ⊢
  rw [if_neg (by omega), if_neg (by rw [longE_nil, hn]; exact Bool.false_ne_true)] at h1 ⊢
  by_cases hT : (0 : Int) = 0 ∧ isT nm = true
  · rw [if_pos hT, if_pos hr] at h1 ⊢
    have e := List.append_cancel_left h1
    exact ⟨ms, h1, rfl, rfl, by rw [← e]; simp, h2, h3, by rw [← e]; exact hk _ _ rfl⟩
  · rw [if_neg hT] at h1 ⊢
    unfold addO at h1 ⊢
    rw [if_pos (by omega)] at h1 ⊢
    have e := List.append_cancel_left h1
    exact ⟨ms, h1, rfl, rfl, by rw [← e]; simp, h2, h3, by rw [← e]; exact hk _ _ rfl⟩
/-- An entry: a marker, or an element of HTML that has its token's name. -/
def EntOk (ks : List Key) (x : EntM) : Prop := x.node = -1 ∨ (keyAt ks x.node = some ⟨1, 0, x.tok.name⟩ ∧ longS x.tok.name = false ∧ x.tok.attrs = [])
structure Inv (s : St) (n : Nat) : Prop where
  good : Good (keysO s.os) s.L
  ent : ∀ x ∈ s.es, EntOk (keysO s.os) x
  few : s.os.length ≤ n
  less : s.es.length ≤ 100000
  one : ∀ o ∈ s.os, OneI o
theorem Inv.mono {s : St} {n m : Nat} (h : Inv s n) (hm : n ≤ m) : Inv s m := ⟨h.good, h.ent, Nat.le_trans h.few hm, h.less, h.one⟩
theorem Inv.mark {s : St} {n : Nat} (h : Inv s n) (m : Int) : Inv (markP s m) n := ⟨h.good, h.ent, h.few, h.less, h.one⟩
theorem Inv.kin {s : St} {n : Nat} (h : Inv s n) {os : List OneM} (hk : Kin s.os os) : Inv ⟨os, s.L, s.es, s.mark⟩ n := ⟨by simp only [hk.keys]; exact h.good, by simp only [hk.keys]; exact h.ent, by simp only [hk.len]; exact h.few, h.less, hk.oneI h.one⟩
theorem Inv.put {s : St} {n : Nat} (h : Inv s n) (p q id : Int) : Inv (putP s p q id) n := h.kin (kin_spot _ _ _ _)
theorem Inv.drop {s : St} {n : Nat} (h : Inv s n) (id : Int) : Inv (dropP s id) n := ⟨h.good, fun x hx => h.ent x (delE_sub _ _ x hx), h.few, Nat.le_trans (delE_leG _ _) h.less, h.one⟩
theorem removeL_sub (L : List Int) (id : Int) : (removeL L id).Sublist L := by
  unfold removeL
  split
  · have h : (L.drop (L.idxOf id + 1)).Sublist (L.drop (L.idxOf id)) := by
      rw [show L.idxOf id + 1 = L.idxOf id + 1 from rfl, ← List.drop_drop]
      exact List.drop_sublist _ _
    have := (List.Sublist.refl (L.take (L.idxOf id))).append h
    rwa [List.take_append_drop] at this
  · exact List.Sublist.refl _
theorem Inv.leave {s : St} {n : Nat} (h : Inv s n) (id : Int) : Inv (leaveP s id) n := ⟨h.good.sub (removeL_sub _ _), h.ent, h.few, h.less, h.one⟩
theorem Good.putG {ks : List Key} {L : List Int} (h : Good ks L) (i id : Int) : Good ks (putL ks L i id) := by
  unfold putL
  split
  · rename_i e
    unfold putE at e
    split at e
    · rename_i he
      obtain ⟨h1, h2⟩ := enterE_ok he
      have hp : (L.take i.toNat ++ id :: L.drop i.toNat).Perm (id :: L) := by
        have := List.perm_middle (a := id) (l₁ := L.take i.toNat) (l₂ := L.drop i.toNat)
        rwa [List.take_append_drop] at this
      refine ⟨hp.nodup_iff.2 (List.nodup_cons.2 ⟨h2, h.nodup⟩), fun x hx => ?_⟩
      rcases List.mem_cons.1 (hp.mem_iff.1 hx) with e | e
      · subst e; exact h1
      · exact h.el x e
    · rename_i he; exact absurd e he
  · exact h
theorem Inv.stand {s : St} {n : Nat} (h : Inv s n) (i id : Int) : Inv (standP s i id) n := ⟨h.good.putG i id, h.ent, h.few, h.less, h.one⟩
theorem Good.swapG {ks : List Key} {L : List Int} (h : Good ks L) (old id : Int) : Good ks (swapL ks L old id) := by
  unfold swapL
  split
  · rename_i e
    unfold swapE at e
    split at e
    · obtain ⟨h1, h2⟩ := enterE_ok e
      have key : ∀ (l : List Int) (i : Nat), l.Nodup → id ∉ l → (l.set i id).Nodup := by
        intro l
        induction l with
        | nil => intro i _ _; simp
        | cons a l ih =>
          intro i hn hm
          obtain ⟨n1, n2⟩ := List.nodup_cons.1 hn
          cases i with
          | zero => exact List.nodup_cons.2 ⟨fun e => hm (List.mem_cons_of_mem _ e), n2⟩
          | succ i =>
            refine List.nodup_cons.2 ⟨fun e => ?_, ih i n2 (fun e => hm (List.mem_cons_of_mem _ e))⟩
            rcases List.mem_or_eq_of_mem_set e with e | e
            · exact n1 e
            · subst e; exact hm List.mem_cons_self
      refine ⟨key _ _ h.nodup h2, fun x hx => ?_⟩
      rcases List.mem_or_eq_of_mem_set hx with e | e
      · exact h.el x e
      · subst e; exact h1
    · cases e
  · exact h
theorem Inv.swap {s : St} {n : Nat} (h : Inv s n) (old id : Int) (hid : placeE s.es old < 0 ∨ keyAt (keysO s.os) id = some ⟨1, 0, (tokE s.es old).name⟩) : Inv (swapP s old id) n := by
  refine ⟨h.good.swapG old id, fun x hx => ?_, h.few, ?_, h.one⟩
  · simp only [swapP] at hx ⊢
    unfold swapEAc at hx
    split at hx
    · rename_i e
      unfold swapA at e
      split at e
      · cases e
      · rename_i hp
        obtain ⟨i, y, e1, hy, _, _⟩ := place_at (es := s.es) (id := old) (by omega)
        rcases List.mem_or_eq_of_mem_set hx with e2 | e2
        · exact h.ent x e2
        · rcases hid with h0 | h0
          · exact absurd h0 hp
          · rw [tokE_at e1 hy] at h0
            have hy' : s.es.getD (placeE s.es old).toNat mark0 = y := by
              rw [e1, Int.toNat_natCast, List.getD_eq_getElem?_getD, hy]; rfl
            rw [hy'] at e2
            subst e2
            have := h.ent y (List.mem_of_getElem? hy)
            obtain ⟨i2, y2, f1, f2, f3, f4⟩ := place_at (es := s.es) (id := old) (by omega)
            rw [e1] at f1
            have hi : i = i2 := by omega
            subst hi
            rw [hy] at f2
            cases f2
            rcases this with g | ⟨_, g2, g3⟩
            · exact absurd (f3.symm.trans g) f4
            · exact .inr ⟨h0, g2, g3⟩
    · exact h.ent x hx
  · simp only [swapP]
    unfold swapEAc
    split
    · rw [List.length_set]; exact h.less
    · exact h.less
theorem Inv.enter {s : St} {n : Nat} (h : Inv s n) (id : Int) (t : TokM) (hid : keyAt (keysO s.os) id = some ⟨1, 0, t.name⟩) (ht : longS t.name = false) (ha : t.attrs = []) (hl : s.es.length < 100000) : Inv (enterP s id t) n := by
  refine ⟨h.good, fun x hx => ?_, h.few, ?_, h.one⟩
  · simp only [enterP] at hx ⊢
    unfold putEAc at hx
    split at hx
    · rcases List.mem_append.1 hx with e | e
      · exact h.ent x (List.mem_of_mem_take e)
      · rcases List.mem_cons.1 e with e | e
        · subst e; exact .inr ⟨hid, ht, ha⟩
        · exact h.ent x (List.mem_of_mem_drop e)
    · exact h.ent x hx
  · simp only [enterP]
    unfold putEAc
    split
    · simp only [List.length_append, List.length_cons, List.length_take, List.length_drop]; omega
    · exact h.less
end Go.Proofs.YtkakncngkmoegaaGreat
