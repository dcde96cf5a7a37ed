/-
   
-/
import Derived.Test.YtmkdnmkckipnaaaGreatSBbm
import Derived.Laws.EntriesVeiled
import Derived.Deep.AppendLies
namespace Go.Proofs.YtmkdnmkckipnaaaGreat
open Go.RowKit

-- places in the list
theorem mem_pairs {es : List EntM} {i : Nat} {x : EntM} (h : es[i]? = some x) (hx : x.node ≠ -1) : ∀ {n : Nat}, i < n → (i, x.node) ∈ pairsN es n
  | 0, hi => absurd hi (Nat.not_lt_zero _)
  | n + 1, hi => by
    rw [pairsN]
    by_cases e : i = n
    · subst e
      rw [h]
      simp [hx]
    · exact List.mem_append_left _ (mem_pairs h hx (by omega))
theorem pairs_mem {es : List EntM} {y : Nat × Int} : ∀ {n : Nat}, y ∈ pairsN es n → ∃ x, es[y.1]? = some x ∧ x.node = y.2 ∧ y.2 ≠ -1
  | 0, h => by simp [pairsN] at h
  | n + 1, h => by
    rw [pairsN] at h
    rcases List.mem_append.1 h with h | h
    · exact pairs_mem h
    · cases e : es[n]? with
      | none => rw [e] at h; simp at h
      | some x =>
        rw [e] at h
        simp only at h
        split at h
        · simp at h
        · rename_i hx
          simp only [List.mem_singleton] at h
          subst h
          exact ⟨x, e, rfl, hx⟩
theorem findP_mem {id : Int} : ∀ {l : List (Nat × Int)}, 0 ≤ findP id l → ∃ i : Nat, findP id l = (i : Int) ∧ (i, id) ∈ l
  | [], h => by simp [findP] at h
  | (i, x) :: r, h => by
    unfold findP at h ⊢
    by_cases e : x = id
    · rw [if_pos e]
      subst e
      exact ⟨i, rfl, by simp⟩
    · rw [if_neg e] at h ⊢
      obtain ⟨j, h1, h2⟩ := findP_mem h
      exact ⟨j, h1, List.mem_cons_of_mem _ h2⟩
theorem findP_of {id : Int} {i : Nat} : ∀ {l : List (Nat × Int)}, (i, id) ∈ l → 0 ≤ findP id l
  | [], h => by simp at h
  | (j, x) :: r, h => by
    unfold findP
    by_cases e : x = id
    · rw [if_pos e]; omega
    · rw [if_neg e]
      rcases List.mem_cons.1 h with h | h
      · cases h; exact absurd rfl e
      · exact findP_of h
theorem place_at {es : List EntM} {id : Int} (h : 0 ≤ placeE es id) : ∃ (i : Nat) (x : EntM), placeE es id = (i : Int) ∧ es[i]? = some x ∧ x.node = id ∧ id ≠ -1 := by
  obtain ⟨i, h1, h2⟩ := findP_mem h
  obtain ⟨x, h3, h4, h5⟩ := pairs_mem h2
  exact ⟨i, x, h1, h3, h4, h5⟩
theorem place_of {es : List EntM} {id : Int} {x : EntM} (hx : x ∈ es) (hn : x.node = id) (h : id ≠ -1) : 0 ≤ placeE es id := by
  obtain ⟨i, hi⟩ := List.getElem?_of_mem hx
  have := mem_pairs hi (by rw [hn]; exact h) (n := es.length) (List.getElem?_eq_some_iff.1 hi).1
  rw [hn] at this
  exact findP_of this
theorem tokE_at {es : List EntM} {id : Int} {i : Nat} {x : EntM} (h : placeE es id = (i : Int)) (hi : es[i]? = some x) : tokE es id = x.tok := by
  unfold tokE
  rw [h, Int.toNat_natCast, List.getD_eq_getElem?_getD, hi]
  rfl
theorem lastE_mem {nm : ByteArray} {es : List EntM} : ∀ n, lastE nm es n = -1 ∨ ∃ x ∈ es, x.node = lastE nm es n ∧ x.node ≠ -1
  | 0 => .inl rfl
  | n + 1 => by
    unfold lastE
    cases e : es[n]? with
    | none => exact .inl rfl
    | some y =>
      simp only
      split
      · exact .inl rfl
      · split
        · exact .inr ⟨y, List.mem_of_getElem? e, rfl, by assumption⟩
        · exact lastE_mem n
theorem place_last {nm : ByteArray} {es : List EntM} {n : Nat} (h : lastE nm es n ≠ -1) : 0 ≤ placeE es (lastE nm es n) := by
  rcases lastE_mem (nm := nm) (es := es) n with e | ⟨x, hx, hn, h1⟩
  · exact absurd e h
  · exact place_of hx hn (by rw [← hn]; exact h1)
theorem delE_sub (es : List EntM) (i : Int) : ∀ x ∈ delE es i, x ∈ es := by
  intro x hx
  unfold delE at hx
  split at hx
  · rcases List.mem_append.1 hx with h | h
    · exact List.mem_of_mem_take h
    · exact List.mem_of_mem_drop h
  · exact hx
theorem delE_leG (es : List EntM) (i : Int) : (delE es i).length ≤ es.length := by
  unfold delE
  split
  · simp only [List.length_append, List.length_take, List.length_drop]
    omega
  · exact Nat.le_refl _
theorem delE_lt {es : List EntM} {n : Int} (h : 0 ≤ placeE es n) : (delE es (placeE es n)).length + 1 = es.length := by
  obtain ⟨i, x, e, hx, _⟩ := place_at h
  have := (List.getElem?_eq_some_iff.1 hx).1
  unfold delE
  rw [if_pos h, e, Int.toNat_natCast]
  simp only [List.length_append, List.length_take, List.length_drop]
  omega
/-- What has an entry still has one, where another's goes. -/
theorem place_del {es : List EntM} {f n : Int} (hf : 0 ≤ placeE es f) (hne : n ≠ f) : 0 ≤ placeE (delE es (placeE es n)) f := by
  by_cases h : 0 ≤ placeE es n
  · obtain ⟨i, x, e, hx, hxn, _⟩ := place_at h
    obtain ⟨j, y, e2, hy, hyn, hf1⟩ := place_at hf
    refine place_of (x := y) ?_ hyn hf1
    unfold delE
    rw [if_pos h, e, Int.toNat_natCast]
    have hij : j ≠ i := fun e => by
      subst e
      rw [hx] at hy
      cases hy
      exact hne (hxn.symm.trans hyn)
    by_cases hlt : j < i
    · exact List.mem_append_left _ (List.mem_of_getElem? (i := j) (by rw [List.getElem?_take, if_pos hlt]; exact hy))
    · exact List.mem_append_right _ (List.mem_of_getElem? (i := j - (i + 1)) (by rw [List.getElem?_drop, show i + 1 + (j - (i + 1)) = j by omega]; exact hy))
  · unfold delE
    rw [if_neg h]
    exact hf
theorem place_swap {ks : List Key} {es : List EntM} {f old id : Int} (hf : 0 ≤ placeE es f) (hne : old ≠ f) : 0 ≤ placeE (swapEAc ks es old id) f := by
  unfold swapEAc
  split
  · rename_i h
    unfold swapA at h
    split at h
    · cases h
    · rename_i ho
      obtain ⟨i, x, e, hx, hxn, _⟩ := place_at (es := es) (id := old) (by omega)
      obtain ⟨j, y, e2, hy, hyn, hf1⟩ := place_at hf
      refine place_of (x := y) ?_ hyn hf1
      rw [e, Int.toNat_natCast]
      have hij : i ≠ j := fun e => by
        subst e
        rw [hx] at hy
        cases hy
        exact hne (hxn.symm.trans hyn)
      exact List.mem_of_getElem? (i := j) (by rw [List.getElem?_set_ne hij]; exact hy)
  · exact hf

-- the tree
theorem unlinkR_len (os : List OneM) (c : Int) : (unlinkR os c).length = os.length := by
  unfold unlinkR
  split
  · exact unlinkO_len _ _ _
  · rfl
theorem unlinkR_same (os : List OneM) (c : Int) (i : Nat) : (unlinkR os c)[i]? = os[i]? ∨ ∃ o o', os[i]? = some o ∧ (unlinkR os c)[i]? = some o' ∧ o'.inner = o.inner ∧ o'.kind = o.kind ∧ o'.space = o.space ∧ o'.name = o.name := by
  unfold unlinkR
  split
  · rw [unlinkO_get]
    cases h : os[i]? with
    | none => exact .inl rfl
    | some o => exact .inr ⟨o, _, rfl, rfl, rfl, rfl, rfl, rfl⟩
  · exact .inl rfl
theorem linkR_same (os : List OneM) (p c b : Int) (i : Nat) : (linkR os p c b)[i]? = os[i]? ∨ ∃ o o', os[i]? = some o ∧ (linkR os p c b)[i]? = some o' ∧ o'.inner = o.inner ∧ o'.kind = o.kind ∧ o'.space = o.space ∧ o'.name = o.name := by
  unfold linkR
  split
  · rw [linkO_get]
    cases h : os[i]? with
    | none => exact .inl rfl
    | some o => exact .inr ⟨o, _, rfl, rfl, rfl, rfl, rfl, rfl⟩
  · exact .inl rfl
/-- Nodes that differ in their links alone. -/
structure Kin (os os' : List OneM) : Prop where
  len : os'.length = os.length
  at' : ∀ i : Nat, os'[i]? = os[i]? ∨ ∃ o o', os[i]? = some o ∧ os'[i]? = some o' ∧ o'.inner = o.inner ∧ o'.kind = o.kind ∧ o'.space = o.space ∧ o'.name = o.name
theorem Kin.refl (os : List OneM) : Kin os os := ⟨rfl, fun _ => .inl rfl⟩
theorem Kin.get {os os' : List OneM} (h : Kin os os') {i : Nat} {o : OneM} (ho : os[i]? = some o) : ∃ o', os'[i]? = some o' ∧ o'.inner = o.inner ∧ o'.kind = o.kind ∧ o'.space = o.space ∧ o'.name = o.name := by
  rcases h.at' i with e | ⟨o1, o2, h1, h2, h3⟩
  · exact ⟨o, e.trans ho, rfl, rfl, rfl, rfl⟩
  · rw [ho] at h1; cases h1; exact ⟨o2, h2, h3⟩
theorem Kin.back {os os' : List OneM} (h : Kin os os') {i : Nat} {o' : OneM} (ho : os'[i]? = some o') : ∃ o, os[i]? = some o ∧ o'.inner = o.inner ∧ o'.kind = o.kind ∧ o'.space = o.space ∧ o'.name = o.name := by
  rcases h.at' i with e | ⟨o1, o2, h1, h2, h3⟩
  · exact ⟨o', e.symm.trans ho, rfl, rfl, rfl, rfl⟩
  · rw [ho] at h2; cases h2; exact ⟨o1, h1, h3⟩
theorem Kin.trans {a b c : List OneM} (h1 : Kin a b) (h2 : Kin b c) : Kin a c := by
  refine ⟨h2.len.trans h1.len, fun i => ?_⟩
  cases ha : a[i]? with
  | none =>
    left
    rw [List.getElem?_eq_none_iff] at ha ⊢
    rw [h2.len, h1.len]; exact ha
  | some o =>
    obtain ⟨o1, e1, p1, p2, p3, p4⟩ := h1.get ha
    obtain ⟨o2, e2, q1, q2, q3, q4⟩ := h2.get e1
    exact .inr ⟨o, o2, rfl, e2, q1.trans p1, q2.trans p2, q3.trans p3, q4.trans p4⟩
theorem kin_unlink (os : List OneM) (c : Int) : Kin os (unlinkR os c) := ⟨unlinkR_len os c, unlinkR_same os c⟩
theorem kin_link (os : List OneM) (p c b : Int) : Kin os (linkR os p c b) := ⟨linkR_len os p c b, linkR_same os p c b⟩
theorem kin_spot (os : List OneM) (p q id : Int) : Kin os (spotR os p q id) := (kin_unlink os id).trans (kin_link _ _ _ _)
theorem Kin.keys {os os' : List OneM} (h : Kin os os') : keysO os' = keysO os := by
  unfold keysO
  refine List.ext_getElem? fun i => ?_
  rw [List.getElem?_map, List.getElem?_map]
  cases ho : os[i]? with
  | none =>
    have : os'[i]? = none := by
      rw [List.getElem?_eq_none_iff] at ho ⊢
      rw [h.len]; exact ho
    rw [this]
  | some o =>
    obtain ⟨o', e, _, p2, p3, p4⟩ := h.get ho
    rw [e]
    simp only [Option.map_some, keyO, p2, p3, p4]
theorem Kin.oneI {os os' : List OneM} (h : Kin os os') (hi : ∀ o ∈ os, OneI o) : ∀ o ∈ os', OneI o := by
  intro o' ho
  obtain ⟨i, hi'⟩ := List.getElem?_of_mem ho
  obtain ⟨o, e, p1, p2, p3, p4⟩ := h.back hi'
  exact (hi o (List.mem_of_getElem? e)).same p1 p2 p3 p4
theorem Kin.has {os os' : List OneM} (h : Kin os os') (k : Int) : hasO os' k = hasO os k := by simp [hasO, h.len]

/-- A new element of HTML without attributes. -/
theorem elemO_new {os : List OneM} {nm : ByteArray} (hr : os.length + 2 ≤ 32768) (hn : longS nm = false) : ∃ ms, (elemO os 0 nm []).1 = os ++ ms ∧ (elemO os 0 nm []).2.1 = (os.length : Int) ∧ (elemO os 0 nm []).2.2 = 0 ∧ 0 < ms.length ∧ ms.length ≤ 2 ∧ (∀ o ∈ ms, OneI o) ∧ keyAt (keysO (os ++ ms)) (os.length : Int) = some ⟨1, 0, nm⟩ := by
  have hk : ∀ q ms, keyO q = ⟨1, 0, nm⟩ → keyAt (keysO (os ++ q :: ms)) (os.length : Int) = some ⟨1, 0, nm⟩ := by
    intro q ms h
    simp [keyAt, keysO, h]
  obtain ⟨ms, h1, h2, h3⟩ := elemO_grow os nm
  unfold elemO at h1 ⊢
  rw [if_neg (by omega), if_neg (by rw [longE_nil, hn]; exact Bool.false_ne_true)] at h1 ⊢
  by_cases hT : (0 : Int) = 0 ∧ isT nm = true
  · rw [if_pos hT, if_pos hr] at h1 ⊢
    have e := List.append_cancel_left h1
    exact ⟨ms, h1, rfl, rfl, by rw [← e]; simp, h2, h3, by rw [← e]; exact hk _ _ rfl⟩
  · rw [if_neg hT] at h1 ⊢
    unfold addO at h1 ⊢
    rw [if_pos (by omega)] at h1 ⊢
    have e := List.append_cancel_left h1
    exact ⟨ms, h1, rfl, rfl, by rw [← e]; simp, h2, h3, by rw [← e]; exact hk _ _ rfl⟩
/-- An entry: a marker, or an element of HTML that has its token's name. -/
def EntOk (ks : List Key) (x : EntM) : Prop := x.node = -1 ∨ (keyAt ks x.node = some ⟨1, 0, x.tok.name⟩ ∧ longS x.tok.name = false ∧ x.tok.attrs = [])
structure Inv (s : St) (n : Nat) : Prop where
  good : Good (keysO s.os) s.L
  ent : ∀ x ∈ s.es, EntOk (keysO s.os) x
  few : s.os.length ≤ n
  less : s.es.length ≤ 100000
  one : ∀ o ∈ s.os, OneI o
theorem Inv.mono {s : St} {n m : Nat} (h : Inv s n) (hm : n ≤ m) : Inv s m := ⟨h.good, h.ent, Nat.le_trans h.few hm, h.less, h.one⟩
theorem Inv.mark {s : St} {n : Nat} (h : Inv s n) (m : Int) : Inv (markP s m) n := ⟨h.good, h.ent, h.few, h.less, h.one⟩
theorem Inv.kin {s : St} {n : Nat} (h : Inv s n) {os : List OneM} (hk : Kin s.os os) : Inv ⟨os, s.L, s.es, s.mark⟩ n := ⟨by simp only [hk.keys]; exact h.good, by simp only [hk.keys]; exact h.ent, by simp only [hk.len]; exact h.few, h.less, hk.oneI h.one⟩
theorem Inv.put {s : St} {n : Nat} (h : Inv s n) (p q id : Int) : Inv (putP s p q id) n := h.kin (kin_spot _ _ _ _)
theorem Inv.drop {s : St} {n : Nat} (h : Inv s n) (id : Int) : Inv (dropP s id) n := ⟨h.good, fun x hx => h.ent x (delE_sub _ _ x hx), h.few, Nat.le_trans (delE_leG _ _) h.less, h.one⟩
theorem removeL_sub (L : List Int) (id : Int) : (removeL L id).Sublist L := by
  unfold removeL
  split
  · have h : (L.drop (L.idxOf id + 1)).Sublist (L.drop (L.idxOf id)) := by
      rw [show L.idxOf id + 1 = L.idxOf id + 1 from rfl, ← List.drop_drop]
      exact List.drop_sublist _ _
    have := (List.Sublist.refl (L.take (L.idxOf id))).append h
    rwa [List.take_append_drop] at this
  · exact List.Sublist.refl _
theorem Inv.leave {s : St} {n : Nat} (h : Inv s n) (id : Int) : Inv (leaveP s id) n := ⟨h.good.sub (removeL_sub _ _), h.ent, h.few, h.less, h.one⟩
theorem Good.putG {ks : List Key} {L : List Int} (h : Good ks L) (i id : Int) : Good ks (putL ks L i id) := by
  unfold putL
  split
  · rename_i e
    unfold putE at e
    split at e
    · rename_i he
      obtain ⟨h1, h2⟩ := enterE_ok he
      have hp : (L.take i.toNat ++ id :: L.drop i.toNat).Perm (id :: L) := by
        have := List.perm_middle (a := id) (l₁ := L.take i.toNat) (l₂ := L.drop i.toNat)
        rwa [List.take_append_drop] at this
      refine ⟨hp.nodup_iff.2 (List.nodup_cons.2 ⟨h2, h.nodup⟩), fun x hx => ?_⟩
      rcases List.mem_cons.1 (hp.mem_iff.1 hx) with e | e
      · subst e; exact h1
      · exact h.el x e
    · rename_i he; exact absurd e he
  · exact h
theorem Inv.stand {s : St} {n : Nat} (h : Inv s n) (i id : Int) : Inv (standP s i id) n := ⟨h.good.putG i id, h.ent, h.few, h.less, h.one⟩
theorem Good.swapG {ks : List Key} {L : List Int} (h : Good ks L) (old id : Int) : Good ks (swapL ks L old id) := by
  unfold swapL
  split
  · rename_i e
    unfold swapE at e
    split at e
    · obtain ⟨h1, h2⟩ := enterE_ok e
      have key : ∀ (l : List Int) (i : Nat), l.Nodup → id ∉ l → (l.set i id).Nodup := by
        intro l
        induction l with
        | nil => intro i _ _; simp
        | cons a l ih =>
          intro i hn hm
          obtain ⟨n1, n2⟩ := List.nodup_cons.1 hn
          cases i with
          | zero => exact List.nodup_cons.2 ⟨fun e => hm (List.mem_cons_of_mem _ e), n2⟩
          | succ i =>
            refine List.nodup_cons.2 ⟨fun e => ?_, ih i n2 (fun e => hm (List.mem_cons_of_mem _ e))⟩
            rcases List.mem_or_eq_of_mem_set e with e | e
            · exact n1 e
            · subst e; exact hm List.mem_cons_self
      refine ⟨key _ _ h.nodup h2, fun x hx => ?_⟩
      rcases List.mem_or_eq_of_mem_set hx with e | e
      · exact h.el x e
      · subst e; exact h1
    · cases e
  · exact h
theorem Inv.swap {s : St} {n : Nat} (h : Inv s n) (old id : Int) (hid : placeE s.es old < 0 ∨ keyAt (keysO s.os) id = some ⟨1, 0, (tokE s.es old).name⟩) : Inv (swapP s old id) n := by
  refine ⟨h.good.swapG old id, fun x hx => ?_, h.few, ?_, h.one⟩
  · simp only [swapP] at hx ⊢
    unfold swapEAc at hx
    split at hx
    · rename_i e
      unfold swapA at e
      split at e
      · cases e
      · rename_i hp
        obtain ⟨i, y, e1, hy, _, _⟩ := place_at (es := s.es) (id := old) (by omega)
        rcases List.mem_or_eq_of_mem_set hx with e2 | e2
        · exact h.ent x e2
        · rcases hid with h0 | h0
          · exact absurd h0 hp
          · rw [tokE_at e1 hy] at h0
            have hy' : s.es.getD (placeE s.es old).toNat mark0 = y := by
              rw [e1, Int.toNat_natCast, List.getD_eq_getElem?_getD, hy]; rfl
            rw [hy'] at e2
            subst e2
            have := h.ent y (List.mem_of_getElem? hy)
            obtain ⟨i2, y2, f1, f2, f3, f4⟩ := place_at (es := s.es) (id := old) (by omega)
            rw [e1] at f1
            have hi : i = i2 := by omega
            subst hi
            rw [hy] at f2
            cases f2
            rcases this with g | ⟨_, g2, g3⟩
            · exact absurd (f3.symm.trans g) f4
            · exact .inr ⟨h0, g2, g3⟩
    · exact h.ent x hx
  · simp only [swapP]
    unfold swapEAc
    split
    · rw [List.length_set]; exact h.less
    · exact h.less
theorem Inv.enter {s : St} {n : Nat} (h : Inv s n) (id : Int) (t : TokM) (hid : keyAt (keysO s.os) id = some ⟨1, 0, t.name⟩) (ht : longS t.name = false) (ha : t.attrs = []) (hl : s.es.length < 100000) : Inv (enterP s id t) n := by
  refine ⟨h.good, fun x hx => ?_, h.few, ?_, h.one⟩
  · simp only [enterP] at hx ⊢
    unfold putEAc at hx
    split at hx
    · rcases List.mem_append.1 hx with e | e
      · exact h.ent x (List.mem_of_mem_take e)
      · rcases List.mem_cons.1 e with e | e
        · subst e; exact .inr ⟨hid, ht, ha⟩
        · exact h.ent x (List.mem_of_mem_drop e)
    · exact h.ent x hx
  · simp only [enterP]
    unfold putEAc
    split
    · simp only [List.length_append, List.length_cons, List.length_take, List.length_drop]; omega
    · exact h.less
end Go.Proofs.YtmkdnmkckipnaaaGreat

namespace Go.Proofs.YtmkdnmkckipnaaaGreat
open Go.RowKit Go.Sort

structure Pt where
  bA : Nat
  bK : Nat
  bL : Nat
  bG : Nat
  foster : Bool
structure Ct where
  another : Bool
  errs : Int
  cnt : Nat

def agCells (P : Pt) (m : Int) (c : Ct) (v : Value) : List Value := [.pointer (some ⟨P.bA, 0, none⟩), .pointer (some ⟨P.bK, 0, none⟩), .pointer (some ⟨P.bL, 0, none⟩), .bool P.foster, .bool c.another, .int .i64 c.errs, .int .i64 m, v]
structure AgM (w : World) (base : Nat) (P : Pt) (m : Int) (c : Ct) (v : Value) : Prop where
  box : w.heap[P.bG]? = some (.cells (agCells P m c v).toArray 86 (0, 0))
  own : ∃ n row, w.ownsRow base 1 1 v n row ∧ n ≤ c.cnt
  lo : base ≤ P.bG
def footG (bG : Nat) (v : Value) (k : Nat) : Prop := k = bG ∨ v.ownBlock = some k
def AgS (w : World) (base : Nat) (P : Pt) (m : Int) (c : Ct) (F : Nat → Prop) : Prop := ∃ v, AgM w base P m c v ∧ ∀ k, F k ↔ footG P.bG v k

section
variable {w w' : World} {base : Nat} {P : Pt} {m : Int} {c : Ct} {v : Value} {F G : Nat → Prop}
theorem AgM.lt (h : AgM w base P m c v) {k : Nat} (hk : footG P.bG v k) : base ≤ k ∧ k < w.heap.size := by
  rcases hk with rfl | hk
  · exact ⟨h.lo, lt_of_block h.box⟩
  · obtain ⟨n, row, ho, _⟩ := h.own
    exact ho.lt k hk
theorem AgM.mod (h : AgM w base P m c v) (hm : Mod G w w') (hG : ∀ k, footG P.bG v k → ¬ G k) : AgM w' base P m c v := by
  obtain ⟨n, row, ho, hn⟩ := h.own
  exact ⟨(hm.block P.bG (lt_of_block h.box) (hG P.bG (.inl rfl))).trans h.box, ⟨n, row, ownsRow_kept ho (fun k hk => hm.block k (ho.lt k hk).2 (hG k (.inr hk))), hn⟩, h.lo⟩
theorem AgM.apart (h : AgM w base P m c v) {k : Nat} (hk : v.ownBlock = some k) : k ≠ P.bG := by
  intro e
  obtain ⟨n, row, ho, _⟩ := h.own
  obtain ⟨cur, hc⟩ := ownsRow_block ho hk
  rw [e, h.box] at hc
  cases hc
theorem AgM.cells (h : AgM w base P m c v) : w.cell? ⟨P.bG, 0, none⟩ = some (.pointer (some ⟨P.bA, 0, none⟩)) ∧ w.cell? ⟨P.bG, 1, none⟩ = some (.pointer (some ⟨P.bK, 0, none⟩)) ∧ w.cell? ⟨P.bG, 2, none⟩ = some (.pointer (some ⟨P.bL, 0, none⟩)) ∧ w.cell? ⟨P.bG, 3, none⟩ = some (.bool P.foster) ∧ w.cell? ⟨P.bG, 4, none⟩ = some (.bool c.another) ∧ w.cell? ⟨P.bG, 5, none⟩ = some (.int .i64 c.errs) ∧ w.cell? ⟨P.bG, 6, none⟩ = some (.int .i64 m) ∧ w.cell? ⟨P.bG, 7, none⟩ = some v ∧ ∀ j, w.frozen? ⟨P.bG, j, none⟩ = false := by
  have hb := h.box
  unfold agCells at hb
  exact ⟨by simp [World.cell?, hb], by simp [World.cell?, hb], by simp [World.cell?, hb], by simp [World.cell?, hb], by simp [World.cell?, hb], by simp [World.cell?, hb], by simp [World.cell?, hb], by simp [World.cell?, hb], fun j => by simp [World.frozen?, hb]⟩
theorem AgS.lt (h : AgS w base P m c F) {k : Nat} (hk : F k) : base ≤ k ∧ k < w.heap.size := by
  obtain ⟨v, h, hF⟩ := h
  exact h.lt ((hF k).1 hk)
theorem AgS.mod (h : AgS w base P m c F) (hm : Mod G w w') (hG : ∀ k, F k → ¬ G k) : AgS w' base P m c F := by
  obtain ⟨v, h, hF⟩ := h
  exact ⟨v, h.mod hm (fun k hk => hG k ((hF k).2 hk)), hF⟩
end
def agOb (base : Nat) (P : Pt) (m : Int) (c : Ct) : Ob base := ⟨fun w F => AgS w base P m c F, fun _ _ _ h hk => h.lt hk, fun _ _ _ _ h hm hG => h.mod hm hG⟩

/-- An arena, a stack, a list and the agency over them; others beside. -/
def AE (w wx : World) (P : Pt) (s : St) (c : Ct) (rest : List (Ob w.heap.size)) : Prop := Env w wx (aO _ P.bA s.os :: stOb _ P.bK P.bA s.L :: liOb _ P.bL P.bA s.es :: agOb _ P s.mark c :: rest)

section
variable {w wx : World} {P : Pt} {s : St} {c : Ct} {rest : List (Ob w.heap.size)}
theorem AE.more {w2 : World} (h : AE w wx P s c rest) (hb : Below wx.heap.size wx w2) : AE w w2 P s c rest := Env.more h hb
theorem AE.boxed (h : AE w wx P s c rest) (cs : Array Value) (t : TypeId) : AE w (wx.alloc (.cells cs t)) P s c (rest ++ [blkOb _ wx.heap.size cs t]) := Env.boxed h cs t
theorem AE.block (h : AE w wx P s c rest) {i K : Nat} {cs : Array Value} {t : TypeId} (hi : rest[i]? = some (blkOb _ K cs t)) : wx.heap[K]? = some (.cells cs t (0, 0)) := Env.block (i := i + 4) h hi
theorem AE.take (h : AE w wx P s c rest) (n : Nat) : AE w wx P s c (rest.take n) := Env.take h (n + 4)
theorem AE.drop1 {x : Ob w.heap.size} (h : AE w wx P s c (rest ++ [x])) : AE w wx P s c rest := by
  have := h.take rest.length
  rwa [List.take_left'] at this
  rfl
theorem AE.ag (h : AE w wx P s c rest) : ∃ v, AgM wx w.heap.size P s.mark c v ∧ ∀ w2 m2 c2 v2, AgM w2 w.heap.size P m2 c2 v2 → Mod (footG P.bG v) wx w2 → (∀ k, footG P.bG v2 k → footG P.bG v k ∨ wx.heap.size ≤ k) → AE w w2 P ⟨s.os, s.L, s.es, m2⟩ c2 rest := by
  obtain ⟨F, ⟨v, ho, hF⟩, _, hk⟩ := Env.upd (i := 3) h rfl
  refine ⟨v, ho, fun w2 m2 c2 v2 h2 hm hf => ?_⟩
  exact hk w2 (agOb _ P m2 c2) (footG P.bG v2) ⟨v2, h2, fun _ => Iff.rfl⟩ (hm.mono fun k _ e => (hF k).2 e) (fun k hk => (hf k hk).imp (fun e => (hF k).2 e) id)
theorem AE.cells (h : AE w wx P s c rest) : wx.cell? ⟨P.bG, 0, none⟩ = some (.pointer (some ⟨P.bA, 0, none⟩)) ∧ wx.cell? ⟨P.bG, 1, none⟩ = some (.pointer (some ⟨P.bK, 0, none⟩)) ∧ wx.cell? ⟨P.bG, 2, none⟩ = some (.pointer (some ⟨P.bL, 0, none⟩)) ∧ wx.cell? ⟨P.bG, 3, none⟩ = some (.bool P.foster) ∧ wx.cell? ⟨P.bG, 4, none⟩ = some (.bool c.another) ∧ wx.cell? ⟨P.bG, 5, none⟩ = some (.int .i64 c.errs) ∧ wx.cell? ⟨P.bG, 6, none⟩ = some (.int .i64 s.mark) := by
  obtain ⟨v, h, _⟩ := h.ag
  obtain ⟨c0, c1, c2, c3, c4, c5, c6, _, _⟩ := h.cells
  exact ⟨c0, c1, c2, c3, c4, c5, c6⟩
theorem AE.free (h : AE w wx P s c rest) (j : Nat) : wx.frozen? ⟨P.bG, j, none⟩ = false := by
  obtain ⟨v, h, _⟩ := h.ag
  exact h.cells.2.2.2.2.2.2.2.2 j
/-- A cell of the struct is written. -/
theorem AE.poke (h : AE w wx P s c rest) (j : Nat) (u : Value) (m2 : Int) (c2 : Ct) (hj : ∀ v, ((agCells P s.mark c v).set j u) = agCells P m2 c2 v) (hc : c.cnt ≤ c2.cnt) : AE w (wx.setCell ⟨P.bG, j, none⟩ u) P ⟨s.os, s.L, s.es, m2⟩ c2 rest := by
  obtain ⟨v, hm, hk⟩ := h.ag
  have hlt := lt_of_block hm.box
  refine hk _ m2 c2 v ⟨?_, ?_, hm.lo⟩ (Mod.setCell (F := footG P.bG v) wx ⟨P.bG, j, none⟩ u (.inl rfl)) (fun k e => .inl e)
  · have := heap_setCell_same wx P.bG j (agCells P s.mark c v).toArray 86 u hm.box
    rw [this]
    congr 2
    have e := hj v
    rw [← e]
    simp
  · obtain ⟨n, row, ho, hn⟩ := hm.own
    exact ⟨n, row, ownsRow_setCell_other ho (fun e => hm.apart e rfl) _, Nat.le_trans hn hc⟩
theorem AE.setMark (h : AE w wx P s c rest) (m2 : Int) : AE w (wx.setCell ⟨P.bG, 6, none⟩ (.int .i64 m2)) P (markP s m2) c rest := h.poke 6 _ m2 c (fun _ => rfl) (Nat.le_refl _)
theorem AE.setErrs (h : AE w wx P s c rest) (e2 : Int) : AE w (wx.setCell ⟨P.bG, 5, none⟩ (.int .i64 e2)) P s ⟨c.another, e2, c.cnt⟩ rest := h.poke 5 _ s.mark ⟨c.another, e2, c.cnt⟩ (fun _ => rfl) (Nat.le_refl _)
theorem AE.setAnother (h : AE w wx P s c rest) (b : Bool) : AE w (wx.setCell ⟨P.bG, 4, none⟩ (.bool b)) P s ⟨b, c.errs, c.cnt⟩ rest := h.poke 4 _ s.mark ⟨b, c.errs, c.cnt⟩ (fun _ => rfl) (Nat.le_refl _)
theorem AE.cnt (h : AE w wx P s c rest) (n : Nat) (hn : c.cnt ≤ n) : AE w wx P s ⟨c.another, c.errs, n⟩ rest := by
  obtain ⟨v, hm, hk⟩ := h.ag
  obtain ⟨k, row, ho, h2⟩ := hm.own
  exact hk wx s.mark ⟨c.another, c.errs, n⟩ v ⟨hm.box, ⟨k, row, ho, Nat.le_trans h2 hn⟩, hm.lo⟩ (Mod.of_below (Below.refl _ _)) (fun k e => .inl e)
end

theorem Tryz.info1 : (Tryz.prog.info? 1).map (fun i => (i.zero, i.size, i.bytes)) = some (some .nilFunc, 1, 8) := by kernel_rfl
section
variable {w wx : World} {P : Pt} {s : St} {c : Ct} {rest : List (Ob w.heap.size)}
theorem changed_no (h : AE w wx P s c rest) (e : Int) (he : e ≠ 0) (u : Value) : Calls Tryz.prog 124 #[.pointer (some ⟨P.bG, 0, none⟩), .int .i64 e, u] wx fun r w' => r = .returned (.tuple #[]) ∧ AE w w' P s c rest := by
  have HE := hide h
  have he2 : (e == 0) = false := by simpa using he
  clear h
  go_enter Tryz.func124, Tryz.ntmps124
  go_wp2
  exact ⟨rfl, _, results_none rfl _ _ _, rfl, unhide HE⟩
set_option maxHeartbeats 2000000 in
theorem changed_yes (h : AE w wx P s c rest) (hl : c.cnt < 1000000000) (fn : Fn) (fi ca : Array Value) : Calls Tryz.prog 124 #[.pointer (some ⟨P.bG, 0, none⟩), .int .i64 0, .func fn fi ca] wx fun r w' => r = .returned (.tuple #[]) ∧ AE w w' P s ⟨c.another, c.errs, c.cnt + 1⟩ rest := by
  obtain ⟨v, hm, hk⟩ := h.ag
  have hlow := h.bel.size
  obtain ⟨n, row, hown, hn⟩ := hm.own
  obtain ⟨_, _, _, _, _, _, _, c7, ff⟩ := hm.cells
  have f7 := ff 7
  have hlt := lt_of_block hm.box
  obtain ⟨i0, hi0, hz0, hz1, hz2⟩ := info_parts Tryz.info1
  have HOW := hide (fun (o : Obj) => hown.alloc o)
  have HN := hide (show n < 1000000000 by omega)
  have HB := hide hlow
  have HGR : Hid (∀ (o : Obj) (w1 : World) (v' : Value), w1.ownsRow w.heap.size 1 1 v' (n + 1) (row ++ [.func fn fi ca]) → (wx.alloc o).grownBy w1 v.ownBlock → (∀ k, v'.ownBlock = some k → v.ownBlock = some k ∨ k = wx.heap.size + 1) → AE w (w1.setCell ⟨P.bG, 7, none⟩ v') P s ⟨c.another, c.errs, c.cnt + 1⟩ rest ∧ w1.cell? ⟨P.bG, 7, none⟩ = some v ∧ w1.frozen? ⟨P.bG, 7, none⟩ = false) := hide (fun o w1 v' hown1 hg hv => by
    have hb : Below wx.heap.size wx (wx.alloc o) := below_newAc wx o
    have hm1 : Mod (footG P.bG v) wx w1 := (Mod.of_below hb).trans (Mod.grown hg (fun k e => .inr e))
    have hbq : w1.heap[P.bG]? = some (.cells (agCells P s.mark c v).toArray 86 (0, 0)) := by
      have hmg : Mod (fun k => v.ownBlock = some k) (wx.alloc o) w1 := Mod.grown hg (fun k e => e)
      exact (hmg.block P.bG (Nat.lt_of_lt_of_le hlt hb.size) (fun e => hm.apart e rfl)).trans ((hb.block _ hlt).trans hm.box)
    have hne : ∀ k, v'.ownBlock = some k → k ≠ P.bG := fun k hk => by
      rcases hv k hk with e | e
      · exact hm.apart e
      · omega
    refine ⟨hk _ s.mark ⟨c.another, c.errs, c.cnt + 1⟩ v' ⟨?_, ⟨n + 1, _, ownsRow_setCell_other hown1 (fun e => hne _ e rfl) _, by simp only; omega⟩, hm.lo⟩ (hm1.trans (Mod.setCell _ _ _ (.inl rfl))) ?_, ?_, by simp [World.frozen?, hbq]⟩
    · have := heap_setCell_same w1 P.bG 7 (agCells P s.mark c v).toArray 86 v' hbq
      rw [this]
      simp [agCells]
    · rintro k (rfl | hk2)
      · exact .inl (.inl rfl)
      · rcases hv k hk2 with e | e
        · exact .inl (.inr e)
        · exact .inr (by omega)
    · unfold agCells at hbq
      simp [World.cell?, hbq])
  have HNW : Hid (∀ (j : Nat) (u : Value), [Value.func fn fi ca][j]? = some u → (wx.alloc (.cells [Value.func fn fi ca].toArray 1)).cell? ((⟨wx.heap.size, 0, none⟩ : Addr).add j) = some u) := hide (World.news_of_block (w := wx.alloc (.cells [Value.func fn fi ca].toArray 1)) (B := wx.heap.size) (t := 1) (fr := (0, 0)) (heap_alloc_new wx _))
  clear h hm hk hown hn hl hlow hlt ff
  go_enter Tryz.func124, Tryz.ntmps124
  go_wp2_with (at_builtin; go_must (refine wpList_append_lies _ (by rfl) _ _ 84 (by rfl) w.heap.size 1 i0 _ 1 8 (by kernel_rfl) hi0 hz0 hz1 hz2 rfl (by omega) v n row (by rfl) ((unhide HOW) _) ⟨wx.heap.size, 0, none⟩ 1 1 [.func fn fi ca] (by rfl) (by rfl) (by exact unhide HNW) (by simp [Value.oneCell']) (by omega) (by have := unhide HN; unfold maxLen; omega) (by have := unhide HN; omega) (by have := unhide HB; simp; omega) (wx.heap.size + 1) (by simp) ?_); intro g' cap' w1 hown1 hgrow hat hltg; obtain ⟨hu, d1, d2⟩ := (unhide HGR) _ w1 _ hown1 hgrow (fun k e => by simp only [Value.ownBlock, Option.some.injEq] at e; subst e; exact hat); have HU := hide hu; clear hown1 hgrow hat hltg hu c7 f7)
  exact ⟨rfl, _, results_none rfl _ _ _, rfl, unhide HU⟩
/-- What could be undone is written down, or there is nothing to undo. -/
theorem changed_any (h : AE w wx P s c rest) (hl : c.cnt < 1000000000) (e : Int) (fn : Fn) (fi ca : Array Value) : Calls Tryz.prog 124 #[.pointer (some ⟨P.bG, 0, none⟩), .int .i64 e, .func fn fi ca] wx fun r w' => r = .returned (.tuple #[]) ∧ AE w w' P s ⟨c.another, c.errs, c.cnt + 1⟩ rest := by
  by_cases he : e = 0
  · subst he; exact changed_yes h hl fn fi ca
  · exact (changed_no h e he _).mono fun _ _ ⟨a, b⟩ => ⟨a, b.cnt _ (Nat.le_succ _)⟩
end
end Go.Proofs.YtmkdnmkckipnaaaGreat
