/-
  A child taken out, new nodes, other data: both still agree. Plain, no walk.
-/
import Derived.Test.YtlbkoafeedlfaaaCSim2
namespace Go.Proofs.Ytlbkoafeedlfaaa
open Go.RowKit

theorem Sim.cut {ns : List NodeM} {os : List OneM} (h : Sim ns os) {c : Nat} {oc : OneM} (hoc : os[c]? = some oc) (hu : oc.up ≠ -1) : ∃ (p : Nat) (op : OneM) (A B : List Nat), oc.up = (p : Int) ∧ os[p]? = some op ∧ op.kids = A ++ c :: B := by
  rcases h.up c oc hoc with e | ⟨p, m, e, hm, hi⟩
  · exact absurd e hu
  · obtain ⟨A, B, hAB⟩ := List.append_of_mem hi
    exact ⟨p, m, A, B, e, hm, hAB⟩

theorem Sim.nbrs {ns : List NodeM} {os : List OneM} (h : Sim ns os) {c p : Nat} {nc : NodeM} {op : OneM} (hnc : ns[c]? = some nc) (hop : os[p]? = some op) {A B : List Nat} (hk : op.kids = A ++ c :: B) : nc.prev = lastI A ∧ nc.next = headI B ∧ okK ns nc.prev ∧ okK ns nc.next := by
  have hK := h.kids p op hop
  rw [hk] at hK
  obtain ⟨e1, e2⟩ := hK.nbrs hnc
  refine ⟨e1, e2, ?_, ?_⟩
  · rw [e1]
    rcases lastI_mem (A := A) with e | ⟨x, hx, e⟩
    · exact .inl e
    · exact .inr ⟨x, e, hK.mem x (by simp [hx])⟩
  · rw [e2]
    rcases headI_mem (B := B) with e | ⟨x, hx, e⟩
    · exact .inl e
    · exact .inr ⟨x, e, hK.mem x (by simp [hx])⟩

theorem Sim.unlink {ns : List NodeM} {os : List OneM} (h : Sim ns os) {p c : Nat} {nc : NodeM} {op oc : OneM} (hnc : ns[c]? = some nc) (hop : os[p]? = some op) (hoc : os[c]? = some oc) (hup : oc.up = (p : Int)) {A B : List Nat} (hkids : op.kids = A ++ c :: B) :
    Sim (unlinkM ns c nc) (unlinkO os p c) := by
  have hK := h.kids p op hop
  have hKn := hK.nodup
  rw [hkids] at hKn
  obtain ⟨e1, e2, ok1, ok2⟩ := h.nbrs hnc hop hkids
  have smc := h.same c nc oc hnc hoc
  have hpar : nc.parent.toNat = p := by rw [smc.up, hup]; simp
  have hclt : c < ns.length := (List.getElem?_eq_some_iff.1 hnc).1
  have hfil : op.kids.filter (· ≠ c) = A ++ B := by rw [hkids]; exact filter_cut hKn
  have nbA : nc.prev = -1 ∨ ∃ x ∈ op.kids, nc.prev = (x : Int) := by
    rw [e1]
    rcases lastI_mem (A := A) with e | ⟨x, hx, e⟩
    · exact .inl e
    · exact .inr ⟨x, by rw [hkids]; simp [hx], e⟩
  have nbB : nc.next = -1 ∨ ∃ x ∈ op.kids, nc.next = (x : Int) := by
    rw [e2]
    rcases headI_mem (B := B) with e | ⟨x, hx, e⟩
    · exact .inl e
    · exact .inr ⟨x, by rw [hkids]; simp [hx], e⟩
  have far : ∀ (k : Int) (z : Int), (z = -1 ∨ ∃ x ∈ op.kids, z = (x : Int)) → (k = -1 ∨ ∃ (y : Nat) (m : OneM), k = (y : Int) ∧ os[y]? = some m ∧ m.up ≠ (p : Int)) → k = -1 ∨ k ≠ z := by
    rintro k z hz (hk | ⟨y, m, rfl, hm, hu⟩)
    · exact .inl hk
    · right
      rcases hz with rfl | ⟨x, hx, rfl⟩
      · omega
      · intro e
        have : y = x := by omega
        subst this
        obtain ⟨m', hm', hu'⟩ := h.down p op y hop hx
        rw [hm] at hm'; cases hm'; exact hu hu'
  have okOf : ∀ (k : Int), (k = -1 ∨ ∃ (y : Nat) (m : OneM), k = (y : Int) ∧ os[y]? = some m ∧ m.up ≠ (p : Int)) → okK ns k := by
    rintro k (hk | ⟨y, m, rfl, hm, _⟩)
    · exact .inl hk
    · exact .inr ⟨y, rfl, by rw [h.len]; exact (List.getElem?_eq_some_iff.1 hm).1⟩
  have neC : ∀ (k : Int), (k = -1 ∨ ∃ (y : Nat) (m : OneM), k = (y : Int) ∧ os[y]? = some m ∧ m.up ≠ (p : Int)) → k ≠ (c : Int) := by
    rintro k (hk | ⟨y, m, rfl, hm, hu⟩)
    · omega
    · intro e
      have : y = c := by omega
      subst this
      rw [hoc] at hm; cases hm; exact hu hup
  have upOther : ∀ x, x ≠ c → upO (unlinkO os p c) x = upO os x := by
    intro x hx
    unfold upO
    rw [unlinkO_get]
    cases os[x]? with
    | none => rfl
    | some o => simp [hx]
  have hkc : oc.kind ≠ 5 := fun e => by have := h.alone c oc hoc (.inr e); omega
  have hhc : oc.host = -1 := by
    rcases h.host c oc hoc with e | ⟨e, _⟩
    · exact e
    · exact absurd e hkc
  have upC : upO (unlinkO os p c) c = some (-1) := by
    unfold upO
    rw [unlinkO_get, hoc]
    simp [hhc]
  refine ⟨by rw [unlinkM_len, unlinkO_len, h.len], ?_, ?_, ?_, ?_, ?_, ?_, ?_, ?_, ?_⟩
  · intro i n' o' hn' ho'
    obtain ⟨n, hn, lk⟩ := like_unlink ns c nc i n' hn'
    rw [unlinkO_get] at ho'
    obtain ⟨o, ho, sm⟩ := h.getO hn
    rw [ho] at ho'
    simp only [Option.map_some, Option.some.injEq] at ho'
    subst ho'
    refine ⟨lk.kind.trans sm.kind, lk.space.trans sm.space, lk.name.trans sm.name, lk.data.trans sm.data, lk.system.trans sm.system, lk.inner.trans sm.inner, lk.attrs.trans sm.attrs, ?_⟩
    have hpar := parent_unlink ns c nc i hclt
    rw [fld_of hn', fld_of hn] at hpar
    rw [hpar]
    by_cases e : i = c
    · simp [e]
    · simp only [e, if_false]; exact sm.up
  · intro i o' ho'
    rw [unlinkO_get] at ho'
    cases ho : os[i]? with
    | none => rw [ho] at ho'; simp at ho'
    | some o =>
      rw [ho] at ho'
      simp only [Option.map_some, Option.some.injEq] at ho'
      subst ho'
      by_cases e : i = p
      · subst e
        rw [hop] at ho; cases ho
        simp only [if_true]
        rw [hfil]
        have hK' := hK
        rw [hkids] at hK'
        exact hK'.remove hnc hpar
      · simp only [e, if_false]
        refine (h.kids i o ho).keep (unlinkM_len _ _ _) (fun k hk => ?_)
        have hk' : k = -1 ∨ ∃ (y : Nat) (m : OneM), k = (y : Int) ∧ os[y]? = some m ∧ m.up ≠ (p : Int) := by
          rcases hk with hk | ⟨x, hx, rfl⟩
          · exact .inl hk
          · obtain ⟨m, hm, hu⟩ := h.down i o x ho hx
            exact .inr ⟨x, m, rfl, hm, by omega⟩
        exact ⟨fwd_unlink_other hpar (fun e' => e e'.symm) ok1 (okOf k hk') (far k _ nbA hk') (neC k hk'), bwd_unlink_other hpar (fun e' => e e'.symm) ok2 (okOf k hk') (far k _ nbB hk') (neC k hk')⟩
  · intro i o' x ho' hx
    rw [unlinkO_get] at ho'
    rw [unlinkO_get]
    cases ho : os[i]? with
    | none => rw [ho] at ho'; simp at ho'
    | some o =>
      rw [ho] at ho'
      simp only [Option.map_some, Option.some.injEq] at ho'
      subst ho'
      by_cases e : i = p
      · subst e
        rw [hop] at ho; cases ho
        simp only [if_true] at hx
        have hx1 := List.mem_filter.1 hx
        obtain ⟨m, hm, hu⟩ := h.down i op x hop hx1.1
        have hxc : x ≠ c := by simpa using hx1.2
        rw [hm]; exact ⟨_, rfl, by simp [hxc, hu]⟩
      · simp only [e, if_false] at hx
        obtain ⟨m, hm, hu⟩ := h.down i o x ho hx
        have hxc : x ≠ c := fun e' => by subst e'; rw [hoc] at hm; cases hm; omega
        rw [hm]; exact ⟨_, rfl, by simp [hxc, hu]⟩
  · intro i o' ho'
    rw [unlinkO_get] at ho'
    cases ho : os[i]? with
    | none => rw [ho] at ho'; simp at ho'
    | some o =>
      rw [ho] at ho'
      simp only [Option.map_some, Option.some.injEq] at ho'
      subst ho'
      by_cases e : i = c
      · left; simp [e]
      · simp only [e, if_false]
        rcases h.up i o ho with hu | ⟨q, m, hu, hm, hi⟩
        · exact .inl hu
        · refine .inr ⟨q, _, hu, (unlinkO_get _ _ _ _).trans (by rw [hm]; rfl), ?_⟩
          by_cases e2 : q = p
          · simp only [e2, if_true]
            exact List.mem_filter.2 ⟨hi, by simpa using e⟩
          · simp only [e2, if_false]; exact hi
  · intro i o' ho' hk
    rw [unlinkO_get] at ho'
    cases ho : os[i]? with
    | none => rw [ho] at ho'; simp at ho'
    | some o =>
      rw [ho] at ho'
      simp only [Option.map_some, Option.some.injEq] at ho'
      subst ho'
      by_cases e : i = c
      · simp [e]
      · simp only [e, if_false]; exact h.alone i o ho hk
  · intro i n' hn' hpar'
    obtain ⟨n, hn, lk⟩ := like_unlink ns c nc i n' hn'
    obtain ⟨o, ho, sm⟩ := h.getO hn
    by_cases e : i = c
    · subst e
      have l1 : (joinM ns nc.parent.toNat nc.prev nc.next).length = ns.length := joinM_len _ _ _ _
      constructor
      · refine fld_get (f := (·.prev)) hn' ?_
        rw [unlinkM, fld_upd_keep _ _ _ _ (setNext (-1)) (fun _ => rfl)]
        exact fld_upd_same _ _ _ _ _ (by rw [upd_len, l1]; exact hclt) (fun _ => rfl)
      · refine fld_get (f := (·.next)) hn' ?_
        rw [unlinkM]
        exact fld_upd_same _ _ _ _ _ (by rw [upd_len, upd_len, l1]; exact hclt) (fun _ => rfl)
    · have hp1 := parent_unlink ns c nc i hclt
      rw [fld_of hn', fld_of hn, hpar', if_neg e] at hp1
      have hu : o.up = -1 := by rw [← sm.up]; exact hp1.symm
      obtain ⟨l1, l2⟩ := h.loose i n hn hp1.symm
      have hk' : (i : Int) = -1 ∨ ∃ (y : Nat) (m : OneM), (i : Int) = (y : Int) ∧ os[y]? = some m ∧ m.up ≠ (p : Int) := .inr ⟨i, o, rfl, ho, by omega⟩
      have hq : p ≠ p + 1 := by omega
      have f1 := fwd_unlink_other (c := c) hpar hq ok1 (okOf _ hk') (far _ _ nbA hk') (neC _ hk')
      have f2 := bwd_unlink_other (c := c) hpar hq ok2 (okOf _ hk') (far _ _ nbB hk') (neC _ hk')
      have ni : ¬ ((i : Int) = -1) := by omega
      simp only [fwd, bwd, ni, if_false, Int.toNat_natCast, fld_of hn', fld_of hn] at f1 f2
      exact ⟨f2.trans l1, f1.trans l2⟩
  · intro i o' ho'
    rw [unlinkO_get] at ho'
    cases ho : os[i]? with
    | none => rw [ho] at ho'; simp at ho'
    | some o =>
      rw [ho] at ho'
      simp only [Option.map_some, Option.some.injEq] at ho'
      subst ho'
      rcases h.inner i o ho with e | ⟨e, m, hm, hh⟩
      · exact .inl e
      · refine .inr ⟨e, _, (unlinkO_get _ _ _ _).trans (by rw [hm]; rfl), ?_⟩
        exact hh
  · intro i o' ho'
    rw [unlinkO_get] at ho'
    cases ho : os[i]? with
    | none => rw [ho] at ho'; simp at ho'
    | some o =>
      rw [ho] at ho'
      simp only [Option.map_some, Option.some.injEq] at ho'
      subst ho'
      rcases h.host i o ho with e | ⟨hk, q, m, e, hq, hm, hi⟩
      · exact .inl e
      · refine .inr ⟨hk, q, _, e, hq, (unlinkO_get _ _ _ _).trans (by rw [hm]; rfl), ?_⟩
        exact hi
  · intro i hi
    rw [unlinkO_len] at hi
    obtain ⟨pi, hpi⟩ := h.ends i hi
    exact path_turn (P := []) upC upOther rfl hpi

/-- Other data in one node. -/
theorem Sim.put {ns : List NodeM} {os : List OneM} (h : Sim ns os) (i : Nat) (f : NodeM → NodeM) (g : OneM → OneM)
    (hf : ∀ n, (f n).parent = n.parent ∧ (f n).first = n.first ∧ (f n).last = n.last ∧ (f n).prev = n.prev ∧ (f n).next = n.next)
    (hg : ∀ o, (g o).kind = o.kind ∧ (g o).inner = o.inner ∧ (g o).host = o.host ∧ (g o).up = o.up ∧ (g o).kids = o.kids)
    (hfg : ∀ n o, Same n o → Same (f n) (g o)) : Sim (upd ns i f) (os.modify i g) := by
  have getO : ∀ j, (os.modify i g)[j]? = (os[j]?).map fun o => if i = j then g o else o := fun j => by rw [List.getElem?_modify]; rfl
  have hgi : ∀ j o, (if i = j then g o else o).kind = o.kind ∧ (if i = j then g o else o).inner = o.inner ∧ (if i = j then g o else o).host = o.host ∧ (if i = j then g o else o).up = o.up ∧ (if i = j then g o else o).kids = o.kids := by
    intro j o; split
    · exact hg o
    · exact ⟨rfl, rfl, rfl, rfl, rfl⟩
  have back : ∀ (j : Nat) o', (os.modify i g)[j]? = some o' → ∃ o, os[j]? = some o ∧ o' = if i = j then g o else o := by
    intro j o' ho'
    rw [getO] at ho'
    cases ho : os[j]? with
    | none => rw [ho] at ho'; simp at ho'
    | some o => rw [ho] at ho'; simp only [Option.map_some, Option.some.injEq] at ho'; exact ⟨o, rfl, ho'.symm⟩
  have upE : upO (os.modify i g) = upO os := by
    funext j
    unfold upO
    rw [getO]
    cases os[j]? with
    | none => rfl
    | some o =>
      obtain ⟨_, _, h3, h4, _⟩ := hgi j o
      simp only [Option.map_some, h3, h4]
  refine ⟨by rw [upd_len, List.length_modify, h.len], ?_, ?_, ?_, ?_, ?_, ?_, ?_, ?_, ?_⟩
  · intro j n' o' hn' ho'
    obtain ⟨o, ho, rfl⟩ := back j o' ho'
    by_cases e : i = j
    · subst e
      obtain ⟨n, hn, sm⟩ := h.get ho
      rw [upd_get_same hn] at hn'
      cases hn'
      rw [if_pos rfl]; exact hfg n o sm
    · rw [upd_get_other ns e] at hn'
      rw [if_neg e]; exact h.same j n' o hn' ho
  · intro j o' ho'
    obtain ⟨o, ho, rfl⟩ := back j o' ho'
    rw [(hgi j o).2.2.2.2]
    refine (h.kids j o ho).keep (upd_len _ _ _) (fun k _ => ⟨?_, ?_⟩)
    · unfold fwd; split
      · exact fld_upd_keep _ _ _ _ _ (fun n => (hf n).2.1)
      · exact fld_upd_keep _ _ _ _ _ (fun n => (hf n).2.2.2.2)
    · unfold bwd; split
      · exact fld_upd_keep _ _ _ _ _ (fun n => (hf n).2.2.1)
      · exact fld_upd_keep _ _ _ _ _ (fun n => (hf n).2.2.2.1)
  · intro j o' c ho' hc
    obtain ⟨o, ho, rfl⟩ := back j o' ho'
    rw [(hgi j o).2.2.2.2] at hc
    obtain ⟨m, hm, hu⟩ := h.down j o c ho hc
    exact ⟨_, (getO c).trans (by rw [hm]; rfl), ((hgi c m).2.2.2.1).trans hu⟩
  · intro j o' ho'
    obtain ⟨o, ho, rfl⟩ := back j o' ho'
    rw [(hgi j o).2.2.2.1]
    rcases h.up j o ho with e | ⟨p, m, e, hm, hi⟩
    · exact .inl e
    · exact .inr ⟨p, _, e, (getO p).trans (by rw [hm]; rfl), by rw [(hgi p m).2.2.2.2]; exact hi⟩
  · intro j o' ho' hk
    obtain ⟨o, ho, rfl⟩ := back j o' ho'
    rw [(hgi j o).1] at hk
    rw [(hgi j o).2.2.2.1]; exact h.alone j o ho hk
  · intro j n' hn' hp
    by_cases e : i = j
    · subst e
      cases hn : ns[i]? with
      | none => rw [upd, hn] at hn'; simp only at hn'; rw [hn] at hn'; cases hn'
      | some n =>
        rw [upd_get_same hn] at hn'
        cases hn'
        obtain ⟨h1, _, _, h4, h5⟩ := hf n
        rw [h4, h5]; exact h.loose i n hn (by rw [← h1]; exact hp)
    · rw [upd_get_other ns e] at hn'; exact h.loose j n' hn' hp
  · intro j o' ho'
    obtain ⟨o, ho, rfl⟩ := back j o' ho'
    rw [(hgi j o).2.1]
    rcases h.inner j o ho with e | ⟨e, m, hm, hh⟩
    · exact .inl e
    · exact .inr ⟨e, _, (getO _).trans (by rw [hm]; rfl), ((hgi (j + 1) m).2.2.1).trans hh⟩
  · intro j o' ho'
    obtain ⟨o, ho, rfl⟩ := back j o' ho'
    rw [(hgi j o).2.2.1, (hgi j o).1]
    rcases h.host j o ho with e | ⟨hk, q, m, e, hq, hm, hi⟩
    · exact .inl e
    · exact .inr ⟨hk, q, _, e, hq, (getO q).trans (by rw [hm]; rfl), ((hgi q m).2.1).trans hi⟩
  · intro j hj
    rw [upE]
    exact h.ends j (by rw [List.length_modify] at hj; exact hj)
end Go.Proofs.Ytlbkoafeedlfaaa
