/-
  A child taken out, new nodes, other data: both still agree. Plain, no walk. New nodes; what is above what: both still agree. Plain, no walk.
-/
import Derived.Test.YtlbkoafeedlfaaaSBaj
namespace Go.Proofs.Ytlbkoafeedlfaaa
open Go.RowKit

theorem Sim.cut {ns : List NodeM} {os : List OneM} (h : Sim ns os) {c : Nat} {oc : OneM} (hoc : os[c]? = some oc) (hu : oc.up ≠ -1) : ∃ (p : Nat) (op : OneM) (A B : List Nat), oc.up = (p : Int) ∧ os[p]? = some op ∧ op.kids = A ++ c :: B := by
  rcases h.up c oc hoc with e | ⟨p, m, e, hm, hi⟩
  · exact absurd e hu
  · obtain ⟨A, B, hAB⟩ := List.append_of_mem hi
    exact ⟨p, m, A, B, e, hm, hAB⟩

theorem Sim.nbrs {ns : List NodeM} {os : List OneM} (h : Sim ns os) {c p : Nat} {nc : NodeM} {op : OneM} (hnc : ns[c]? = some nc) (hop : os[p]? = some op) {A B : List Nat} (hk : op.kids = A ++ c :: B) : nc.prev = lastI A ∧ nc.next = headI B ∧ okK ns nc.prev ∧ okK ns nc.next := by
  have hK := h.kids p op hop
  rw [hk] at hK
  obtain ⟨e1, e2⟩ := hK.nbrs hnc
  refine ⟨e1, e2, ?_, ?_⟩
  · rw [e1]
    rcases lastI_mem (A := A) with e | ⟨x, hx, e⟩
    · exact .inl e
    · exact .inr ⟨x, e, hK.mem x (by simp [hx])⟩
  · rw [e2]
    rcases headI_mem (B := B) with e | ⟨x, hx, e⟩
    · exact .inl e
    · exact .inr ⟨x, e, hK.mem x (by simp [hx])⟩

theorem Sim.unlink {ns : List NodeM} {os : List OneM} (h : Sim ns os) {p c : Nat} {nc : NodeM} {op oc : OneM} (hnc : ns[c]? = some nc) (hop : os[p]? = some op) (hoc : os[c]? = some oc) (hup : oc.up = (p : Int)) {A B : List Nat} (hkids : op.kids = A ++ c :: B) :
    Sim (unlinkM ns c nc) (unlinkO os p c) := by
  have hK := h.kids p op hop
  have hKn := hK.nodup
  rw [hkids] at hKn
  obtain ⟨e1, e2, ok1, ok2⟩ := h.nbrs hnc hop hkids
  have smc := h.same c nc oc hnc hoc
  have hpar : nc.parent.toNat = p := by rw [smc.up, hup]; simp
  have hclt : c < ns.length := (List.getElem?_eq_some_iff.1 hnc).1
  have hfil : op.kids.filter (· ≠ c) = A ++ B := by rw [hkids]; exact filter_cut hKn
  have nbA : nc.prev = -1 ∨ ∃ x ∈ op.kids, nc.prev = (x : Int) := by
    rw [e1]
    rcases lastI_mem (A := A) with e | ⟨x, hx, e⟩
    · exact .inl e
    · exact .inr ⟨x, by rw [hkids]; simp [hx], e⟩
  have nbB : nc.next = -1 ∨ ∃ x ∈ op.kids, nc.next = (x : Int) := by
    rw [e2]
    rcases headI_mem (B := B) with e | ⟨x, hx, e⟩
    · exact .inl e
    · exact .inr ⟨x, by rw [hkids]; simp [hx], e⟩
  have far : ∀ (k : Int) (z : Int), (z = -1 ∨ ∃ x ∈ op.kids, z = (x : Int)) → (k = -1 ∨ ∃ (y : Nat) (m : OneM), k = (y : Int) ∧ os[y]? = some m ∧ m.up ≠ (p : Int)) → k = -1 ∨ k ≠ z := by
    rintro k z hz (hk | ⟨y, m, rfl, hm, hu⟩)
    · exact .inl hk
    · right
      rcases hz with rfl | ⟨x, hx, rfl⟩
      · omega
      · intro e
        have : y = x := by omega
        subst this
        obtain ⟨m', hm', hu'⟩ := h.down p op y hop hx
        rw [hm] at hm'; cases hm'; exact hu hu'
  have okOf : ∀ (k : Int), (k = -1 ∨ ∃ (y : Nat) (m : OneM), k = (y : Int) ∧ os[y]? = some m ∧ m.up ≠ (p : Int)) → okK ns k := by
    rintro k (hk | ⟨y, m, rfl, hm, _⟩)
    · exact .inl hk
    · exact .inr ⟨y, rfl, by rw [h.len]; exact (List.getElem?_eq_some_iff.1 hm).1⟩
  have neC : ∀ (k : Int), (k = -1 ∨ ∃ (y : Nat) (m : OneM), k = (y : Int) ∧ os[y]? = some m ∧ m.up ≠ (p : Int)) → k ≠ (c : Int) := by
    rintro k (hk | ⟨y, m, rfl, hm, hu⟩)
    · omega
    · intro e
      have : y = c := by omega
      subst this
      rw [hoc] at hm; cases hm; exact hu hup
  have upOther : ∀ x, x ≠ c → upO (unlinkO os p c) x = upO os x := by
    intro x hx
    unfold upO
    rw [unlinkO_get]
    cases os[x]? with
    | none => rfl
    | some o => simp [hx]
  have hkc : oc.kind ≠ 5 := fun e => by have := h.alone c oc hoc (.inr e); omega
  have hhc : oc.host = -1 := by
    rcases h.host c oc hoc with e | ⟨e, _⟩
    · exact e
    · exact absurd e hkc
  have upC : upO (unlinkO os p c) c = some (-1) := by
    unfold upO
    rw [unlinkO_get, hoc]
    simp [hhc]
  refine ⟨by rw [unlinkM_len, unlinkO_len, h.len], ?_, ?_, ?_, ?_, ?_, ?_, ?_, ?_, ?_⟩
  · intro i n' o' hn' ho'
    obtain ⟨n, hn, lk⟩ := like_unlink ns c nc i n' hn'
    rw [unlinkO_get] at ho'
    obtain ⟨o, ho, sm⟩ := h.getO hn
    rw [ho] at ho'
    simp only [Option.map_some, Option.some.injEq] at ho'
    subst ho'
    refine ⟨lk.kind.trans sm.kind, lk.space.trans sm.space, lk.name.trans sm.name, lk.data.trans sm.data, lk.system.trans sm.system, lk.inner.trans sm.inner, lk.attrs.trans sm.attrs, ?_⟩
    have hpar := parent_unlink ns c nc i hclt
    rw [fld_of hn', fld_of hn] at hpar
    rw [hpar]
    by_cases e : i = c
    · simp [e]
    · simp only [e, if_false]; exact sm.up
  · intro i o' ho'
    rw [unlinkO_get] at ho'
    cases ho : os[i]? with
    | none => rw [ho] at ho'; simp at ho'
    | some o =>
      rw [ho] at ho'
      simp only [Option.map_some, Option.some.injEq] at ho'
      subst ho'
      by_cases e : i = p
      · subst e
        rw [hop] at ho; cases ho
        simp only [if_true]
        rw [hfil]
        have hK' := hK
        rw [hkids] at hK'
        exact hK'.remove hnc hpar
      · simp only [e, if_false]
        refine (h.kids i o ho).keep (unlinkM_len _ _ _) (fun k hk => ?_)
        have hk' : k = -1 ∨ ∃ (y : Nat) (m : OneM), k = (y : Int) ∧ os[y]? = some m ∧ m.up ≠ (p : Int) := by
          rcases hk with hk | ⟨x, hx, rfl⟩
          · exact .inl hk
          · obtain ⟨m, hm, hu⟩ := h.down i o x ho hx
            exact .inr ⟨x, m, rfl, hm, by omega⟩
        exact ⟨fwd_unlink_other hpar (fun e' => e e'.symm) ok1 (okOf k hk') (far k _ nbA hk') (neC k hk'), bwd_unlink_other hpar (fun e' => e e'.symm) ok2 (okOf k hk') (far k _ nbB hk') (neC k hk')⟩
  · intro i o' x ho' hx
    rw [unlinkO_get] at ho'
    rw [unlinkO_get]
    cases ho : os[i]? with
    | none => rw [ho] at ho'; simp at ho'
    | some o =>
      rw [ho] at ho'
      simp only [Option.map_some, Option.some.injEq] at ho'
      subst ho'
      by_cases e : i = p
      · subst e
        rw [hop] at ho; cases ho
        simp only [if_true] at hx
        have hx1 := List.mem_filter.1 hx
        obtain ⟨m, hm, hu⟩ := h.down i op x hop hx1.1
        have hxc : x ≠ c := by simpa using hx1.2
        rw [hm]; exact ⟨_, rfl, by simp [hxc, hu]⟩
      · simp only [e, if_false] at hx
        obtain ⟨m, hm, hu⟩ := h.down i o x ho hx
        have hxc : x ≠ c := fun e' => by subst e'; rw [hoc] at hm; cases hm; omega
        rw [hm]; exact ⟨_, rfl, by simp [hxc, hu]⟩
  · intro i o' ho'
    rw [unlinkO_get] at ho'
    cases ho : os[i]? with
    | none => rw [ho] at ho'; simp at ho'
    | some o =>
      rw [ho] at ho'
      simp only [Option.map_some, Option.some.injEq] at ho'
      subst ho'
      by_cases e : i = c
      · left; simp [e]
      · simp only [e, if_false]
        rcases h.up i o ho with hu | ⟨q, m, hu, hm, hi⟩
        · exact .inl hu
        · refine .inr ⟨q, _, hu, (unlinkO_get _ _ _ _).trans (by rw [hm]; rfl), ?_⟩
          by_cases e2 : q = p
          · simp only [e2, if_true]
            exact List.mem_filter.2 ⟨hi, by simpa using e⟩
          · simp only [e2, if_false]; exact hi
  · intro i o' ho' hk
    rw [unlinkO_get] at ho'
    cases ho : os[i]? with
    | none => rw [ho] at ho'; simp at ho'
    | some o =>
      rw [ho] at ho'
      simp only [Option.map_some, Option.some.injEq] at ho'
      subst ho'
      by_cases e : i = c
      · simp [e]
      · simp only [e, if_false]; exact h.alone i o ho hk
  · intro i n' hn' hpar'
    obtain ⟨n, hn, lk⟩ := like_unlink ns c nc i n' hn'
    obtain ⟨o, ho, sm⟩ := h.getO hn
    by_cases e : i = c
    · subst e
      have l1 : (joinM ns nc.parent.toNat nc.prev nc.next).length = ns.length := joinM_len _ _ _ _
      constructor
      · refine fld_get (f := (·.prev)) hn' ?_
        rw [unlinkM, fld_upd_keep _ _ _ _ (setNext (-1)) (fun _ => rfl)]
        exact fld_upd_same _ _ _ _ _ (by rw [upd_len, l1]; exact hclt) (fun _ => rfl)
      · refine fld_get (f := (·.next)) hn' ?_
        rw [unlinkM]
        exact fld_upd_same _ _ _ _ _ (by rw [upd_len, upd_len, l1]; exact hclt) (fun _ => rfl)
    · have hp1 := parent_unlink ns c nc i hclt
      rw [fld_of hn', fld_of hn, hpar', if_neg e] at hp1
      have hu : o.up = -1 := by rw [← sm.up]; exact hp1.symm
      obtain ⟨l1, l2⟩ := h.loose i n hn hp1.symm
      have hk' : (i : Int) = -1 ∨ ∃ (y : Nat) (m : OneM), (i : Int) = (y : Int) ∧ os[y]? = some m ∧ m.up ≠ (p : Int) := .inr ⟨i, o, rfl, ho, by omega⟩
      have hq : p ≠ p + 1 := by omega
      have f1 := fwd_unlink_other (c := c) hpar hq ok1 (okOf _ hk') (far _ _ nbA hk') (neC _ hk')
      have f2 := bwd_unlink_other (c := c) hpar hq ok2 (okOf _ hk') (far _ _ nbB hk') (neC _ hk')
      have ni : ¬ ((i : Int) = -1) := by omega
      simp only [fwd, bwd, ni, if_false, Int.toNat_natCast, fld_of hn', fld_of hn] at f1 f2
      exact ⟨f2.trans l1, f1.trans l2⟩
  · intro i o' ho'
    rw [unlinkO_get] at ho'
    cases ho : os[i]? with
    | none => rw [ho] at ho'; simp at ho'
    | some o =>
      rw [ho] at ho'
      simp only [Option.map_some, Option.some.injEq] at ho'
      subst ho'
      rcases h.inner i o ho with e | ⟨e, m, hm, hh⟩
      · exact .inl e
      · refine .inr ⟨e, _, (unlinkO_get _ _ _ _).trans (by rw [hm]; rfl), ?_⟩
        exact hh
  · intro i o' ho'
    rw [unlinkO_get] at ho'
    cases ho : os[i]? with
    | none => rw [ho] at ho'; simp at ho'
    | some o =>
      rw [ho] at ho'
      simp only [Option.map_some, Option.some.injEq] at ho'
      subst ho'
      rcases h.host i o ho with e | ⟨hk, q, m, e, hq, hm, hi⟩
      · exact .inl e
      · refine .inr ⟨hk, q, _, e, hq, (unlinkO_get _ _ _ _).trans (by rw [hm]; rfl), ?_⟩
        exact hi
  · intro i hi
    rw [unlinkO_len] at hi
    obtain ⟨pi, hpi⟩ := h.ends i hi
    exact path_turn (P := []) upC upOther rfl hpi

/-- Other data in one node. -/
theorem Sim.put {ns : List NodeM} {os : List OneM} (h : Sim ns os) (i : Nat) (f : NodeM → NodeM) (g : OneM → OneM)
    (hf : ∀ n, (f n).parent = n.parent ∧ (f n).first = n.first ∧ (f n).last = n.last ∧ (f n).prev = n.prev ∧ (f n).next = n.next)
    (hg : ∀ o, (g o).kind = o.kind ∧ (g o).inner = o.inner ∧ (g o).host = o.host ∧ (g o).up = o.up ∧ (g o).kids = o.kids)
    (hfg : ∀ n o, Same n o → Same (f n) (g o)) : Sim (upd ns i f) (os.modify i g) := by
  have getO : ∀ j, (os.modify i g)[j]? = (os[j]?).map fun o => if i = j then g o else o := fun j => by rw [List.getElem?_modify]; rfl
  have hgi : ∀ j o, (if i = j then g o else o).kind = o.kind ∧ (if i = j then g o else o).inner = o.inner ∧ (if i = j then g o else o).host = o.host ∧ (if i = j then g o else o).up = o.up ∧ (if i = j then g o else o).kids = o.kids := by
    intro j o; split
    · exact hg o
    · exact ⟨rfl, rfl, rfl, rfl, rfl⟩
  have back : ∀ (j : Nat) o', (os.modify i g)[j]? = some o' → ∃ o, os[j]? = some o ∧ o' = if i = j then g o else o := by
    intro j o' ho'
    rw [getO] at ho'
    cases ho : os[j]? with
    | none => rw [ho] at ho'; simp at ho'
    | some o => rw [ho] at ho'; simp only [Option.map_some, Option.some.injEq] at ho'; exact ⟨o, rfl, ho'.symm⟩
  have upE : upO (os.modify i g) = upO os := by
    funext j
    unfold upO
    rw [getO]
    cases os[j]? with
    | none => rfl
    | some o =>
      obtain ⟨_, _, h3, h4, _⟩ := hgi j o
      simp only [Option.map_some, h3, h4]
  refine ⟨by rw [upd_len, List.length_modify, h.len], ?_, ?_, ?_, ?_, ?_, ?_, ?_, ?_, ?_⟩
  · intro j n' o' hn' ho'
    obtain ⟨o, ho, rfl⟩ := back j o' ho'
    by_cases e : i = j
    · subst e
      obtain ⟨n, hn, sm⟩ := h.get ho
      rw [upd_get_same hn] at hn'
      cases hn'
      rw [if_pos rfl]; exact hfg n o sm
    · rw [upd_get_other ns e] at hn'
      rw [if_neg e]; exact h.same j n' o hn' ho
  · intro j o' ho'
    obtain ⟨o, ho, rfl⟩ := back j o' ho'
    rw [(hgi j o).2.2.2.2]
    refine (h.kids j o ho).keep (upd_len _ _ _) (fun k _ => ⟨?_, ?_⟩)
    · unfold fwd; split
      · exact fld_upd_keep _ _ _ _ _ (fun n => (hf n).2.1)
      · exact fld_upd_keep _ _ _ _ _ (fun n => (hf n).2.2.2.2)
    · unfold bwd; split
      · exact fld_upd_keep _ _ _ _ _ (fun n => (hf n).2.2.1)
      · exact fld_upd_keep _ _ _ _ _ (fun n => (hf n).2.2.2.1)
  · intro j o' c ho' hc
    obtain ⟨o, ho, rfl⟩ := back j o' ho'
    rw [(hgi j o).2.2.2.2] at hc
    obtain ⟨m, hm, hu⟩ := h.down j o c ho hc
    exact ⟨_, (getO c).trans (by rw [hm]; rfl), ((hgi c m).2.2.2.1).trans hu⟩
  · intro j o' ho'
    obtain ⟨o, ho, rfl⟩ := back j o' ho'
    rw [(hgi j o).2.2.2.1]
    rcases h.up j o ho with e | ⟨p, m, e, hm, hi⟩
    · exact .inl e
    · exact .inr ⟨p, _, e, (getO p).trans (by rw [hm]; rfl), by rw [(hgi p m).2.2.2.2]; exact hi⟩
  · intro j o' ho' hk
    obtain ⟨o, ho, rfl⟩ := back j o' ho'
    rw [(hgi j o).1] at hk
    rw [(hgi j o).2.2.2.1]; exact h.alone j o ho hk
  · intro j n' hn' hp
    by_cases e : i = j
    · subst e
      cases hn : ns[i]? with
      | none => rw [upd, hn] at hn'; simp only at hn'; rw [hn] at hn'; cases hn'
      | some n =>
        rw [upd_get_same hn] at hn'
        cases hn'
        obtain ⟨h1, _, _, h4, h5⟩ := hf n
        rw [h4, h5]; exact h.loose i n hn (by rw [← h1]; exact hp)
    · rw [upd_get_other ns e] at hn'; exact h.loose j n' hn' hp
  · intro j o' ho'
    obtain ⟨o, ho, rfl⟩ := back j o' ho'
    rw [(hgi j o).2.1]
    rcases h.inner j o ho with e | ⟨e, m, hm, hh⟩
    · exact .inl e
    · exact .inr ⟨e, _, (getO _).trans (by rw [hm]; rfl), ((hgi (j + 1) m).2.2.1).trans hh⟩
  · intro j o' ho'
    obtain ⟨o, ho, rfl⟩ := back j o' ho'
    rw [(hgi j o).2.2.1, (hgi j o).1]
    rcases h.host j o ho with e | ⟨hk, q, m, e, hq, hm, hi⟩
    · exact .inl e
    · exact .inr ⟨hk, q, _, e, hq, (getO q).trans (by rw [hm]; rfl), ((hgi q m).2.1).trans hi⟩
  · intro j hj
    rw [upE]
    exact h.ends j (by rw [List.length_modify] at hj; exact hj)
end Go.Proofs.Ytlbkoafeedlfaaa

namespace Go.Proofs.Ytlbkoafeedlfaaa
open Go.RowKit

theorem Sim.adds {ns : List NodeM} {os : List OneM} (h : Sim ns os) (ms : List NodeM) (qs : List OneM) (hl : ms.length = qs.length)
    (hs : ∀ (j : Nat) m q, ms[j]? = some m → qs[j]? = some q → Same m q ∧ m.parent = -1 ∧ m.first = -1 ∧ m.last = -1 ∧ m.prev = -1 ∧ m.next = -1 ∧ q.kids = [])
    (hin : ∀ (j : Nat) q, qs[j]? = some q → q.inner = -1 ∨ (q.inner = ((os.length + j : Nat) : Int) + 1 ∧ ∃ m, qs[j + 1]? = some m ∧ m.host = ((os.length + j : Nat) : Int)))
    (hho : ∀ (j : Nat) q, qs[j]? = some q → q.host = -1 ∨ (q.kind = 5 ∧ ∃ (k : Nat) (m : OneM), j = k + 1 ∧ q.host = ((os.length + k : Nat) : Int) ∧ qs[k]? = some m ∧ m.inner = ((os.length + j : Nat) : Int) ∧ m.host = -1)) :
    Sim (ns ++ ms) (os ++ qs) := by
  have getL : ∀ i, i < os.length → (os ++ qs)[i]? = os[i]? := fun i hi => List.getElem?_append_left hi
  have getR : ∀ j, (os ++ qs)[os.length + j]? = qs[j]? := fun j => by rw [List.getElem?_append_right (by omega)]; simp
  have getNR : ∀ j, (ns ++ ms)[os.length + j]? = ms[j]? := fun j => by rw [List.getElem?_append_right (by rw [h.len]; omega), h.len]; simp
  have getNL : ∀ i, i < os.length → (ns ++ ms)[i]? = ns[i]? := fun i hi => List.getElem?_append_left (by rw [h.len]; exact hi)
  have old : ∀ {i : Nat} {o : OneM}, os[i]? = some o → i < os.length := fun ho => (List.getElem?_eq_some_iff.1 ho).1
  have cases' : ∀ (i : Nat) o, (os ++ qs)[i]? = some o → (i < os.length ∧ os[i]? = some o) ∨ ∃ j, i = os.length + j ∧ qs[j]? = some o := by
    intro i o ho
    by_cases hi : i < os.length
    · rw [getL i hi] at ho; exact .inl ⟨hi, ho⟩
    · have e : i = os.length + (i - os.length) := by omega
      rw [e, getR] at ho
      exact .inr ⟨_, e, ho⟩
  have newO : ∀ (j : Nat) q, qs[j]? = some q → ∃ m, ms[j]? = some m ∧ Same m q ∧ m.parent = -1 ∧ m.first = -1 ∧ m.last = -1 ∧ m.prev = -1 ∧ m.next = -1 ∧ q.kids = [] := by
    intro j q hq
    have hlt : j < ms.length := by rw [hl]; exact (List.getElem?_eq_some_iff.1 hq).1
    exact ⟨_, List.getElem?_eq_getElem hlt, hs j _ q (List.getElem?_eq_getElem hlt) hq⟩
  have newUp : ∀ (j : Nat) q, qs[j]? = some q → q.up = -1 := by
    intro j q hq
    obtain ⟨m, _, sm, hp, _⟩ := newO j q hq
    rw [← sm.up]; exact hp
  have upL : ∀ i, i < os.length → upO (os ++ qs) i = upO os i := fun i hi => by unfold upO; rw [getL i hi]
  have pathL : ∀ {path : List Nat} {k : Int}, PathOf (upO os) k path → PathOf (upO (os ++ qs)) k path := by
    intro path k hp
    refine path_congr (fun x hx => upL x ?_) hp
    clear upL
    induction path generalizing k with
    | nil => simp at hx
    | cons i r ih =>
      obtain ⟨rfl, m, hm, hr⟩ := hp
      rcases List.mem_cons.1 hx with rfl | hx
      · unfold upO at hm
        cases ho : os[x]? with
        | none => rw [ho] at hm; simp at hm
        | some o => exact old ho
      · exact ih hr hx
  refine ⟨by simp [h.len, hl], ?_, ?_, ?_, ?_, ?_, ?_, ?_, ?_, ?_⟩
  · intro i n o hn ho
    rcases cases' i o ho with ⟨hi, ho⟩ | ⟨j, rfl, hq⟩
    · rw [getNL i hi] at hn; exact h.same i n o hn ho
    · rw [getNR] at hn; exact (hs j n o hn hq).1
  · intro i o ho
    rcases cases' i o ho with ⟨hi, ho⟩ | ⟨j, rfl, hq⟩
    · exact (h.kids i o ho).more ms
    · obtain ⟨m, hm, _, _, h1, h2, _, _, hk⟩ := newO j o hq
      rw [hk]
      have hjl : j < ms.length := (List.getElem?_eq_some_iff.1 hm).1
      refine ⟨by simp [h.len]; omega, ⟨⟨?_, ?_⟩, trivial⟩, List.nodup_nil, by simp⟩
      · simp only [fwd, if_true, fld, getNR, hm]; exact h1
      · simp only [bwd, if_true, fld, getNR, hm]; exact h2
  · intro i o c ho hc
    rcases cases' i o ho with ⟨hi, ho⟩ | ⟨j, rfl, hq⟩
    · obtain ⟨m, hm, hu⟩ := h.down i o c ho hc
      exact ⟨m, (getL c (old hm)).trans hm, hu⟩
    · obtain ⟨m, _, _, _, _, _, _, _, hk⟩ := newO j o hq
      rw [hk] at hc; simp at hc
  · intro i o ho
    rcases cases' i o ho with ⟨hi, ho⟩ | ⟨j, rfl, hq⟩
    · rcases h.up i o ho with e | ⟨p, m, e, hm, hi⟩
      · exact .inl e
      · exact .inr ⟨p, m, e, (getL p (old hm)).trans hm, hi⟩
    · exact .inl (newUp j o hq)
  · intro i o ho hk
    rcases cases' i o ho with ⟨hi, ho⟩ | ⟨j, rfl, hq⟩
    · exact h.alone i o ho hk
    · exact newUp j o hq
  · intro i n hn hp
    by_cases hi : i < os.length
    · rw [getNL i hi] at hn; exact h.loose i n hn hp
    · rw [show i = os.length + (i - os.length) by omega, getNR] at hn
      obtain ⟨q, hq⟩ : ∃ q, qs[i - os.length]? = some q := ⟨_, List.getElem?_eq_getElem (by rw [← hl]; exact (List.getElem?_eq_some_iff.1 hn).1)⟩
      obtain ⟨_, _, _, _, h4, h5, _⟩ := hs _ n q hn hq
      exact ⟨h4, h5⟩
  · intro i o ho
    rcases cases' i o ho with ⟨hi, ho⟩ | ⟨j, rfl, hq⟩
    · rcases h.inner i o ho with e | ⟨e, m, hm, hh⟩
      · exact .inl e
      · exact .inr ⟨e, m, (getL _ (old hm)).trans hm, hh⟩
    · rcases hin j o hq with e | ⟨e, m, hm, hh⟩
      · exact .inl e
      · exact .inr ⟨e, m, (getR (j + 1)).trans hm, hh⟩
  · intro i o ho
    rcases cases' i o ho with ⟨hi, ho⟩ | ⟨j, rfl, hq⟩
    · rcases h.host i o ho with e | ⟨hk, q, m, e, hq, hm, hi⟩
      · exact .inl e
      · exact .inr ⟨hk, q, m, e, hq, (getL q (old hm)).trans hm, hi⟩
    · rcases hho j o hq with e | ⟨hk, k, m, rfl, e, hm, hi, _⟩
      · exact .inl e
      · exact .inr ⟨hk, os.length + k, m, e, by omega, (getR k).trans hm, hi⟩
  · intro i hi
    by_cases hlt : i < os.length
    · obtain ⟨path, hp⟩ := h.ends i hlt
      exact ⟨path, pathL hp⟩
    · obtain ⟨j, rfl⟩ : ∃ j, i = os.length + j := ⟨i - os.length, by omega⟩
      have hj : j < qs.length := by simp at hi; omega
      have hq : qs[j]? = some qs[j] := List.getElem?_eq_getElem hj
      rcases hho j _ hq with e | ⟨hk, k, m, rfl, e, hm, hi, hh⟩
      · refine ⟨[os.length + j], rfl, -1, ?_, rfl⟩
        unfold upO; rw [getR, hq]; simp [newUp j _ hq, e]
      · refine ⟨[os.length + (k + 1), os.length + k], rfl, _, ?_, rfl, -1, ?_, rfl⟩
        · unfold upO; rw [getR, hq]; simp only [Option.map_some, newUp _ _ hq, if_true, e]
        · unfold upO; rw [getR, hm]; simp [newUp k m hm, hh]

def oneM (k : Int) : OneM := { kind := k, space := 0, name := ⟨#[]⟩, data := ⟨#[]⟩, system := ⟨#[]⟩, inner := -1, host := -1, up := -1, attrs := [], kids := [] }

theorem Sim.nil : Sim [] [] :=
  ⟨rfl, fun _ _ _ h => by simp at h, fun _ _ h => by simp at h, fun _ _ _ h => by simp at h, fun _ _ h => by simp at h, fun _ _ h => by simp at h, fun _ _ h => by simp at h, fun _ _ h => by simp at h, fun _ _ h => by simp at h, fun _ h => by simp at h⟩

/-- A node more, without links. -/
theorem Sim.add1 {ns : List NodeM} {os : List OneM} (h : Sim ns os) (m : NodeM) (q : OneM) (hs : Same m q) (h1 : m.parent = -1 ∧ m.first = -1 ∧ m.last = -1 ∧ m.prev = -1 ∧ m.next = -1) (hk : q.kids = []) (hi : q.inner = -1) (hh : q.host = -1) : Sim (ns ++ [m]) (os ++ [q]) := by
  have one : ∀ {α : Type} {x y : α} {j : Nat}, [x][j]? = some y → y = x := fun {α x y j} e => by
    have := List.mem_of_getElem? e
    simpa using this
  refine h.adds [m] [q] rfl (fun j m' q' hm hq => ?_) (fun j q' hq => ?_) (fun j q' hq => ?_)
  · rw [one hm, one hq]; exact ⟨hs, h1.1, h1.2.1, h1.2.2.1, h1.2.2.2.1, h1.2.2.2.2, hk⟩
  · rw [one hq]; exact .inl hi
  · rw [one hq]; exact .inl hh

/-- A template and its contents. -/
theorem Sim.add2 {ns : List NodeM} {os : List OneM} (h : Sim ns os) (m1 m2 : NodeM) (q1 q2 : OneM) (hs1 : Same m1 q1) (hs2 : Same m2 q2) (h1 : m1.parent = -1 ∧ m1.first = -1 ∧ m1.last = -1 ∧ m1.prev = -1 ∧ m1.next = -1) (h2 : m2.parent = -1 ∧ m2.first = -1 ∧ m2.last = -1 ∧ m2.prev = -1 ∧ m2.next = -1)
    (k1 : q1.kids = []) (k2 : q2.kids = []) (i1 : q1.inner = (os.length : Int) + 1) (i2 : q2.inner = -1) (o1 : q1.host = -1) (o2 : q2.host = (os.length : Int)) (hk : q2.kind = 5) : Sim (ns ++ [m1, m2]) (os ++ [q1, q2]) := by
  have two : ∀ {α : Type} {x y z : α} {j : Nat}, [x, y][j]? = some z → (j = 0 ∧ z = x) ∨ (j = 1 ∧ z = y) := fun {α x y z j} e => by
    match j, e with
    | 0, e => simp at e; exact .inl ⟨rfl, e.symm⟩
    | 1, e => simp at e; exact .inr ⟨rfl, e.symm⟩
  refine h.adds [m1, m2] [q1, q2] rfl (fun j m' q' hm hq => ?_) (fun j q' hq => ?_) (fun j q' hq => ?_)
  · rcases two hm with ⟨rfl, rfl⟩ | ⟨rfl, rfl⟩
    · simp at hq; subst hq; exact ⟨hs1, h1.1, h1.2.1, h1.2.2.1, h1.2.2.2.1, h1.2.2.2.2, k1⟩
    · simp at hq; subst hq; exact ⟨hs2, h2.1, h2.2.1, h2.2.2.1, h2.2.2.2.1, h2.2.2.2.2, k2⟩
  · rcases two hq with ⟨rfl, rfl⟩ | ⟨rfl, rfl⟩
    · exact .inr ⟨by simpa using i1, q2, by simp, by simpa using o2⟩
    · exact .inl i2
  · rcases two hq with ⟨rfl, rfl⟩ | ⟨rfl, rfl⟩
    · exact .inl o1
    · exact .inr ⟨hk, 0, q1, rfl, by simpa using o2, by simp, by simpa using i1, o1⟩

theorem Sim.new : Sim [blankM 0] [oneM 0] :=
  Sim.nil.add1 (blankM 0) (oneM 0) ⟨rfl, rfl, rfl, rfl, rfl, rfl, rfl, rfl⟩ ⟨rfl, rfl, rfl, rfl, rfl⟩ rfl rfl rfl

theorem mem_inPath {path : List Nat} {c : Nat} : inPath path (c : Int) = true ↔ c ∈ path := by
  unfold inPath
  rw [List.any_eq_true]
  constructor
  · rintro ⟨x, hx, e⟩
    have : x = c := by have := of_decide_eq_true e; omega
    exact this ▸ hx
  · intro h; exact ⟨c, h, by simp⟩

/-- Whoever stands above another one has a child, or contents. -/
theorem Sim.above_has {ns : List NodeM} {os : List OneM} (h : Sim ns os) {c : Nat} {oc : OneM} (hoc : os[c]? = some oc) (hk : oc.kids = []) (hi : oc.inner = -1) : ∀ {path : List Nat} {k : Int}, PathOf (upO os) k path → c ∈ path → k = (c : Int)
  | [], _, _, hc => by simp at hc
  | i :: r, k, hp, hc => by
    obtain ⟨rfl, m, hm, hr⟩ := hp
    rcases List.mem_cons.1 hc with rfl | hc
    · rfl
    · have hmc := h.above_has hoc hk hi hr hc
      subst hmc
      unfold upO at hm
      cases ho : os[i]? with
      | none => rw [ho] at hm; simp at hm
      | some o =>
        rw [ho] at hm
        simp only [Option.map_some, Option.some.injEq] at hm
        by_cases hu : o.up = -1
        · rw [if_pos hu] at hm
          rcases h.host i o ho with e | ⟨_, q, mm, e, hq, hmm, hin⟩
          · omega
          · have : q = c := by omega
            subst this
            rw [hoc] at hmm; cases hmm; omega
        · rw [if_neg hu] at hm
          rcases h.up i o ho with e | ⟨q, mm, e, hmm, hin⟩
          · exact absurd e hu
          · have : q = c := by omega
            subst this
            rw [hoc] at hmm; cases hmm
            rw [hk] at hin; simp at hin

theorem Sim.first_nil {ns : List NodeM} {os : List OneM} (h : Sim ns os) {i : Nat} {n : NodeM} {o : OneM} (hn : ns[i]? = some n) (ho : os[i]? = some o) : n.first = headI o.kids ∧ n.last = lastI o.kids := by
  have hK := h.kids i o ho
  constructor
  · obtain ⟨Y, hY⟩ := cut_right o.kids
    have hch := hK.chain
    rw [ring_eq, hY] at hch
    have := hch.1.1
    simpa [fwd, fld, hn] using this
  · obtain ⟨X, hX⟩ := cut_left o.kids
    have hch := hK.chain
    have hr : ring o.kids = X ++ lastI o.kids :: -1 :: [] := by rw [ring_eq, ← List.cons_append, hX]; simp
    rw [hr, Ch_append] at hch
    have := hch.2.1.2
    simpa [bwd, fld, hn] using this

theorem Sim.covers {ns : List NodeM} {os : List OneM} (h : Sim ns os) {c p : Nat} {nc : NodeM} (hnc : ns[c]? = some nc) {path : List Nat} (hpath : PathOf (upO os) p path) : coversM c nc p path = inPath path c := by
  obtain ⟨oc, hoc, sm⟩ := h.getO hnc
  unfold coversM
  split
  · rename_i hcnd
    have hk : oc.kids = [] := by
      have := (h.first_nil hnc hoc).1
      rw [hcnd.1] at this
      cases hks : oc.kids with
      | nil => rfl
      | cons x l => rw [hks] at this; simp [headI] at this
    have hi : oc.inner = -1 := by rw [← sm.inner]; exact hcnd.2
    by_cases e : c = p
    · subst e
      rw [mem_inPath.2 (path_head hpath)]; simp
    · have : inPath path c = false := by
        rw [Bool.eq_false_iff]; intro hm
        have := h.above_has hoc hk hi hpath (mem_inPath.1 hm)
        omega
      rw [this]; simpa using e
  · rfl
end Go.Proofs.Ytlbkoafeedlfaaa
