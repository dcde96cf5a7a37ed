/-
  Attributes set and taken away; what is told of a node: by plain nodes.
-/
import Derived.Test.YtlbkoafeedlfaaaCOps2
namespace Go.Proofs.Ytlbkoafeedlfaaa
open Go.RowKit

theorem upd_of_modF {w w' : World} {base bA bS g cap : Nat} {ns ms : List NodeM} {F : Nat → Prop} (hF : ∀ k, F k ↔ foot bA bS g ns k) (h : Ar w' base bA bS g cap ms) (hm : Mod (foot bA bS g ns) w w')
    (hav : ∀ k, foot bA bS g ms k → foot bA bS g ns k ∨ w.heap.size ≤ k) : Upd F w w' base bA ms :=
  ⟨_, ⟨bS, g, cap, h, fun _ => Iff.rfl⟩, hm.mono (fun k _ hk => (hF k).2 hk), fun k hk => (hav k hk).imp (hF k).2 id⟩

theorem foot_set {bA bS g : Nat} {ns : List NodeM} {i : Nat} {n m : NodeM} (hi : ns[i]? = some n) {B : Nat} (hm : ∀ k, m.av.ownBlock = some k → n.av.ownBlock = some k ∨ B ≤ k) (k : Nat) (h : foot bA bS g (ns.set i m) k) : foot bA bS g ns k ∨ B ≤ k := by
  rcases h with h | h | h | ⟨x, hx, hk⟩
  · exact .inl (.inl h)
  · exact .inl (.inr (.inl h))
  · exact .inl (.inr (.inr (.inl h)))
  · rcases List.mem_or_eq_of_mem_set hx with hx | rfl
    · exact .inl (.inr (.inr (.inr ⟨x, hx, hk⟩)))
    · rcases hm k hk with h1 | h1
      · exact .inl (.inr (.inr (.inr ⟨n, List.mem_of_getElem? hi, h1⟩)))
      · exact .inr h1

def attrIdx (os : List OneM) (k : Int) (space : Int) (name : ByteArray) : Int := idxM (sameKey space name) (((os[k.toNat]?).map (·.attrs)).getD [])
def attrsO (os : List OneM) (k : Int) : List AttrM := ((os[k.toNat]?).map (·.attrs)).getD []
def setL (l : List AttrM) (x : AttrM) : List AttrM := if idxM (sameKey x.space x.name) l = -1 then l ++ [x] else setVal l (idxM (sameKey x.space x.name) l).toNat x.val
def setAttrE (os : List OneM) (k : Int) (x : AttrM) : Int :=
  if hasO os k = false then 6 else if kindO os k ≠ 1 then 10 else if x.long then 2 else if idxM (sameKey x.space x.name) (attrsO os k) = -1 ∧ ¬ (attrsO os k).length < 1024 then 2 else 0
def setAttrR (os : List OneM) (k : Int) (x : AttrM) : List OneM := if setAttrE os k x = 0 then os.modify k.toNat fun o => { o with attrs := setL o.attrs x } else os
def delAttrE (os : List OneM) (k space : Int) (name : ByteArray) : Int :=
  if hasO os k = false then 6 else if kindO os k ≠ 1 then 10 else if idxM (sameKey space name) (attrsO os k) = -1 then 1 else 0
def delAttrR (os : List OneM) (k space : Int) (name : ByteArray) : List OneM := if delAttrE os k space name = 0 then os.modify k.toNat fun o => { o with attrs := o.attrs.eraseIdx (idxM (sameKey space name) o.attrs).toNat } else os

theorem idxM_or (p : AttrM → Bool) (l : List AttrM) : idxM p l = -1 ∨ ∃ j : Nat, idxM p l = (j : Int) := by
  unfold idxM
  split
  · exact .inr ⟨_, rfl⟩
  · exact .inl rfl

section
variable {w : World} {base bA : Nat} {ns : List NodeM} {os : List OneM} {F : Nat → Prop}

theorem mayAttr_eq (hs : Sim ns os) (k : Int) : mayAttrM ns k = if hasO os k = false then 6 else if kindO os k ≠ 1 then 10 else 0 := by
  unfold mayAttrM
  rw [hs.hasM]
  cases hh : hasO os k with
  | false => simp
  | true =>
    obtain ⟨i, o, rfl, ho⟩ := hasO_yes hh
    obtain ⟨n, hn, sm⟩ := hs.get ho
    simp only [Bool.true_eq_false, if_false, kindO_of ho, Int.toNat_natCast, hn, Option.map_some, Option.some.injEq, sm.kind]
    by_cases e : o.kind = 1 <;> simp [e]

theorem setAttr_sim (ha : ArS w base bA ns F) (hs : Sim ns os) (k : Int) (x : AttrM) :
    Calls Try.prog 43 #[.pointer (some ⟨bA, 0, none⟩), .int .i64 k, x.agg] w fun e w' => e = .returned (.int .i64 (setAttrE os k x)) ∧ USim F w w' base bA (setAttrR os k x) := by
  have ha' := ha
  obtain ⟨bS, g, cap, h, hF⟩ := ha
  have hme := mayAttr_eq hs k
  by_cases hm0 : mayAttrM ns k = 0
  · rw [hm0] at hme
    have hh : hasO os k = true := by
      cases hh : hasO os k with
      | true => rfl
      | false => rw [hh] at hme; simp at hme
    have hk1 : kindO os k = 1 := by
      by_cases e : kindO os k = 1
      · exact e
      · rw [hh, if_neg (by decide), if_pos e] at hme; cases hme
    obtain ⟨i, o, rfl, ho⟩ := hasO_yes hh
    obtain ⟨n, hn, sm⟩ := hs.get ho
    rw [kindO_of ho] at hk1
    have hk : n.kind = 1 := by rw [sm.kind]; exact hk1
    have hat : attrsO os (i : Int) = n.attrs := by simp [attrsO, ho, sm.attrs]
    have hE : setAttrE os (i : Int) x = if x.long then 2 else if idxM (sameKey x.space x.name) n.attrs = -1 ∧ ¬ n.attrs.length < 1024 then 2 else 0 := by
      unfold setAttrE
      rw [if_neg (by rw [hh]; decide), if_neg (by rw [kindO_of ho]; simpa using hk1), hat]
    unfold setAttrR
    rw [hE]
    cases hl : x.long with
    | true =>
      simp only [if_true]
      exact (setAttr_long h i x hm0 hl).mono fun e w' ⟨h1, h2⟩ => ⟨h1, ns, ha'.upd h2, by simpa using hs⟩
    | false =>
      simp only [Bool.false_eq_true, if_false]
      rcases idxM_or (sameKey x.space x.name) n.attrs with hj | ⟨j, hj⟩
      · by_cases hmany : n.attrs.length < 1024
        · rw [if_neg (fun e => e.2 hmany), if_pos rfl]
          refine (setAttr_new h i n hn hk x hl hj hmany).mono fun e w' ⟨h1, av, h2, h3, h4⟩ => ⟨h1, _, upd_of_modF hF h2 (h3.mono (fun k _ hk => ?_)) (foot_set hn h4), ?_⟩
          · rcases hk with hk | hk
            · exact .inr (.inr (.inr ⟨n, List.mem_of_getElem? hn, hk⟩))
            · exact .inr (.inr (.inl hk))
          · have := hs.put i (fun m => { m with av := av, attrs := setL m.attrs x }) (fun o => { o with attrs := setL o.attrs x }) (fun _ => ⟨rfl, rfl, rfl, rfl, rfl⟩) (fun _ => ⟨rfl, rfl, rfl, rfl, rfl⟩)
              (fun n o sm => ⟨sm.kind, sm.space, sm.name, sm.data, sm.system, sm.inner, by rw [sm.attrs], sm.up⟩)
            rw [upd_of hn] at this
            have e2 : setL n.attrs x = n.attrs ++ [x] := by rw [setL, if_pos hj]
            simp only [e2] at this
            simpa using this
        · rw [if_pos ⟨hj, hmany⟩, if_neg (by decide)]
          exact (setAttr_many h i n hn hk x hl hj hmany).mono fun e w' ⟨h1, h2⟩ => ⟨h1, ns, ha'.upd h2, hs⟩
      · have hne : ¬ idxM (sameKey x.space x.name) n.attrs = -1 := by omega
        rw [if_neg (fun e => hne e.1), if_pos rfl]
        refine (setAttr_found h i n hn hk x hl j hj).mono fun e w' ⟨h1, h2, h3⟩ => ⟨h1, _, upd_of_modF hF h2 (h3.mono (fun k _ hk => ?_)) (foot_set hn (fun k hk => .inl hk)), ?_⟩
        · exact .inr (.inr (.inr ⟨n, List.mem_of_getElem? hn, hk⟩))
        · have := hs.put i (fun m => { m with attrs := setL m.attrs x }) (fun o => { o with attrs := setL o.attrs x }) (fun _ => ⟨rfl, rfl, rfl, rfl, rfl⟩) (fun _ => ⟨rfl, rfl, rfl, rfl, rfl⟩)
            (fun n o sm => ⟨sm.kind, sm.space, sm.name, sm.data, sm.system, sm.inner, by rw [sm.attrs], sm.up⟩)
          rw [upd_of hn] at this
          have e2 : setL n.attrs x = setVal n.attrs j x.val := by rw [setL, if_neg hne, hj]; simp
          simp only [e2] at this
          simpa using this
  · have hE : setAttrE os k x = mayAttrM ns k := by
      rw [hme]
      unfold setAttrE
      cases hh : hasO os k with
      | false => simp
      | true =>
        rw [hme, hh, if_neg (by decide)] at hm0
        by_cases e : kindO os k = 1
        · rw [if_neg (by simpa using e)] at hm0; exact absurd rfl hm0
        · simp only [Bool.true_eq_false, if_false]; rw [if_pos e, if_pos e]
    unfold setAttrR
    rw [hE, if_neg hm0]
    exact (setAttr_may h k x hm0).mono fun e w' ⟨h1, h2⟩ => ⟨h1, ns, ha'.upd h2, hs⟩

theorem delAttr_sim (ha : ArS w base bA ns F) (hs : Sim ns os) (k space : Int) (name : ByteArray) :
    Calls Try.prog 45 #[.pointer (some ⟨bA, 0, none⟩), .int .i64 k, .int .i64 space, .string name] w fun e w' => e = .returned (.int .i64 (delAttrE os k space name)) ∧ USim F w w' base bA (delAttrR os k space name) := by
  have ha' := ha
  obtain ⟨bS, g, cap, h, hF⟩ := ha
  have hme := mayAttr_eq hs k
  by_cases hm0 : mayAttrM ns k = 0
  · rw [hm0] at hme
    have hh : hasO os k = true := by
      cases hh : hasO os k with
      | true => rfl
      | false => rw [hh] at hme; simp at hme
    have hk1 : kindO os k = 1 := by
      by_cases e : kindO os k = 1
      · exact e
      · rw [hh, if_neg (by decide), if_pos e] at hme; cases hme
    obtain ⟨i, o, rfl, ho⟩ := hasO_yes hh
    obtain ⟨n, hn, sm⟩ := hs.get ho
    rw [kindO_of ho] at hk1
    have hk : n.kind = 1 := by rw [sm.kind]; exact hk1
    have hat : attrsO os (i : Int) = n.attrs := by simp [attrsO, ho, sm.attrs]
    have hE : delAttrE os (i : Int) space name = if idxM (sameKey space name) n.attrs = -1 then 1 else 0 := by
      unfold delAttrE
      rw [if_neg (by rw [hh]; decide), if_neg (by rw [kindO_of ho]; simpa using hk1), hat]
    unfold delAttrR
    rw [hE]
    rcases idxM_or (sameKey space name) n.attrs with hj | ⟨j, hj⟩
    · rw [if_pos hj, if_neg (by decide)]
      exact (delAttr_none h i n hn hk space name hj).mono fun e w' ⟨h1, h2⟩ => ⟨h1, ns, ha'.upd h2, hs⟩
    · have hne : ¬ idxM (sameKey space name) n.attrs = -1 := by omega
      rw [if_neg hne, if_pos rfl]
      refine (delAttr_found h i n hn hk space name j hj).mono fun e w' ⟨h1, av, h2, h3, h4⟩ => ⟨h1, _, upd_of_modF hF h2 (h3.mono (fun k _ hk => ?_)) (foot_set hn h4), ?_⟩
      · rcases hk with hk | hk
        · exact .inr (.inr (.inr ⟨n, List.mem_of_getElem? hn, hk⟩))
        · exact .inr (.inr (.inl hk))
      · have := hs.put i (fun m => { m with av := av, attrs := m.attrs.eraseIdx (idxM (sameKey space name) m.attrs).toNat }) (fun o => { o with attrs := o.attrs.eraseIdx (idxM (sameKey space name) o.attrs).toNat }) (fun _ => ⟨rfl, rfl, rfl, rfl, rfl⟩) (fun _ => ⟨rfl, rfl, rfl, rfl, rfl⟩)
          (fun n o sm => ⟨sm.kind, sm.space, sm.name, sm.data, sm.system, sm.inner, by rw [sm.attrs], sm.up⟩)
        rw [upd_of hn] at this
        simp only [hj, Int.toNat_natCast] at this
        simpa using this
  · have hE : delAttrE os k space name = mayAttrM ns k := by
      rw [hme]
      unfold delAttrE
      cases hh : hasO os k with
      | false => simp
      | true =>
        rw [hme, hh, if_neg (by decide)] at hm0
        by_cases e : kindO os k = 1
        · rw [if_neg (by simpa using e)] at hm0; exact absurd rfl hm0
        · simp only [Bool.true_eq_false, if_false]; rw [if_pos e, if_pos e]
    unfold delAttrR
    rw [hE, if_neg hm0]
    exact (delAttr_may h k space name hm0).mono fun e w' ⟨h1, h2⟩ => ⟨h1, ns, ha'.upd (h2 ▸ Below.refl _ _), hs⟩

/-- What stands ahead of and behind a child. -/
def nbr (os : List OneM) (i : Nat) (o : OneM) : Int × Int :=
  match (if o.up = -1 then none else (os[o.up.toNat]?).map (·.kids)) with
  | none => (-1, -1)
  | some l => (lastI (l.takeWhile (· ≠ i)), headI ((l.dropWhile (· ≠ i)).tail))

theorem take_cut {A B : List Nat} {c : Nat} (h : c ∉ A) : (A ++ c :: B).takeWhile (· ≠ c) = A ∧ (A ++ c :: B).dropWhile (· ≠ c) = c :: B := by
  induction A with
  | nil => simp
  | cons a A ih =>
    have ha : a ≠ c := fun e => h (by simp [e])
    have := ih (fun e => h (by simp [e]))
    simp only [List.cons_append, List.takeWhile_cons, List.dropWhile_cons, ha, ne_eq, not_false_eq_true, decide_true, if_true]
    exact ⟨by rw [this.1], this.2⟩

/-- A node as it is told. -/
def tellN (os : List OneM) (i : Nat) (o : OneM) : NodeM :=
  { kind := o.kind, space := o.space, name := o.name, av := .slice none 0 0, data := o.data, system := o.system, parent := o.up, first := headI o.kids, last := lastI o.kids, prev := (nbr os i o).1, next := (nbr os i o).2, inner := o.inner, attrs := o.attrs }

theorem Sim.tell (hs : Sim ns os) {i : Nat} {n : NodeM} {o : OneM} (hn : ns[i]? = some n) (ho : os[i]? = some o) : n = { tellN os i o with av := n.av } := by
  have sm := hs.same i n o hn ho
  obtain ⟨e1, e2⟩ := hs.first_nil hn ho
  have hnb : n.prev = (nbr os i o).1 ∧ n.next = (nbr os i o).2 := by
    by_cases hu : o.up = -1
    · have := hs.loose i n hn (by rw [sm.up]; exact hu)
      unfold nbr
      rw [if_pos hu]
      exact this
    · obtain ⟨p, op, A, B, hup, hop, hk⟩ := hs.cut ho hu
      obtain ⟨n1, n2, _, _⟩ := hs.nbrs hn hop hk
      have hnd := (hs.kids p op hop).nodup
      rw [hk] at hnd
      have hA : i ∉ A := fun e => by
        rw [List.nodup_append] at hnd
        exact hnd.2.2 i e i (by simp) rfl
      obtain ⟨t1, t2⟩ := take_cut (B := B) hA
      unfold nbr
      rw [if_neg hu, hup, Int.toNat_natCast, hop, Option.map_some]
      simp only
      rw [hk, t1, t2]
      exact ⟨n1, n2⟩
  obtain ⟨a, b, c, d, e, f, g, h⟩ := sm
  cases n
  simp only [tellN] at *
  simp_all
end
end Go.Proofs.Ytlbkoafeedlfaaa
