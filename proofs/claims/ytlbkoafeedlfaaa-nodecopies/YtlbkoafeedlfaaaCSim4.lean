/-
  New nodes; what is above what: both still agree. Plain, no walk.
-/
import Derived.Test.YtlbkoafeedlfaaaCSim3
namespace Go.Proofs.Ytlbkoafeedlfaaa
open Go.RowKit

theorem Sim.adds {ns : List NodeM} {os : List OneM} (h : Sim ns os) (ms : List NodeM) (qs : List OneM) (hl : ms.length = qs.length)
    (hs : ∀ (j : Nat) m q, ms[j]? = some m → qs[j]? = some q → Same m q ∧ m.parent = -1 ∧ m.first = -1 ∧ m.last = -1 ∧ m.prev = -1 ∧ m.next = -1 ∧ q.kids = [])
    (hin : ∀ (j : Nat) q, qs[j]? = some q → q.inner = -1 ∨ (q.inner = ((os.length + j : Nat) : Int) + 1 ∧ ∃ m, qs[j + 1]? = some m ∧ m.host = ((os.length + j : Nat) : Int)))
    (hho : ∀ (j : Nat) q, qs[j]? = some q → q.host = -1 ∨ (q.kind = 5 ∧ ∃ (k : Nat) (m : OneM), j = k + 1 ∧ q.host = ((os.length + k : Nat) : Int) ∧ qs[k]? = some m ∧ m.inner = ((os.length + j : Nat) : Int) ∧ m.host = -1)) :
    Sim (ns ++ ms) (os ++ qs) := by
  have getL : ∀ i, i < os.length → (os ++ qs)[i]? = os[i]? := fun i hi => List.getElem?_append_left hi
  have getR : ∀ j, (os ++ qs)[os.length + j]? = qs[j]? := fun j => by rw [List.getElem?_append_right (by omega)]; simp
  have getNR : ∀ j, (ns ++ ms)[os.length + j]? = ms[j]? := fun j => by rw [List.getElem?_append_right (by rw [h.len]; omega), h.len]; simp
  have getNL : ∀ i, i < os.length → (ns ++ ms)[i]? = ns[i]? := fun i hi => List.getElem?_append_left (by rw [h.len]; exact hi)
  have old : ∀ {i : Nat} {o : OneM}, os[i]? = some o → i < os.length := fun ho => (List.getElem?_eq_some_iff.1 ho).1
  have cases' : ∀ (i : Nat) o, (os ++ qs)[i]? = some o → (i < os.length ∧ os[i]? = some o) ∨ ∃ j, i = os.length + j ∧ qs[j]? = some o := by
    intro i o ho
    by_cases hi : i < os.length
    · rw [getL i hi] at ho; exact .inl ⟨hi, ho⟩
    · have e : i = os.length + (i - os.length) := by omega
      rw [e, getR] at ho
      exact .inr ⟨_, e, ho⟩
  have newO : ∀ (j : Nat) q, qs[j]? = some q → ∃ m, ms[j]? = some m ∧ Same m q ∧ m.parent = -1 ∧ m.first = -1 ∧ m.last = -1 ∧ m.prev = -1 ∧ m.next = -1 ∧ q.kids = [] := by
    intro j q hq
    have hlt : j < ms.length := by rw [hl]; exact (List.getElem?_eq_some_iff.1 hq).1
    exact ⟨_, List.getElem?_eq_getElem hlt, hs j _ q (List.getElem?_eq_getElem hlt) hq⟩
  have newUp : ∀ (j : Nat) q, qs[j]? = some q → q.up = -1 := by
    intro j q hq
    obtain ⟨m, _, sm, hp, _⟩ := newO j q hq
    rw [← sm.up]; exact hp
  have upL : ∀ i, i < os.length → upO (os ++ qs) i = upO os i := fun i hi => by unfold upO; rw [getL i hi]
  have pathL : ∀ {path : List Nat} {k : Int}, PathOf (upO os) k path → PathOf (upO (os ++ qs)) k path := by
    intro path k hp
    refine path_congr (fun x hx => upL x ?_) hp
    clear upL
    induction path generalizing k with
    | nil => simp at hx
    | cons i r ih =>
      obtain ⟨rfl, m, hm, hr⟩ := hp
      rcases List.mem_cons.1 hx with rfl | hx
      · unfold upO at hm
        cases ho : os[x]? with
        | none => rw [ho] at hm; simp at hm
        | some o => exact old ho
      · exact ih hr hx
  refine ⟨by simp [h.len, hl], ?_, ?_, ?_, ?_, ?_, ?_, ?_, ?_, ?_⟩
  · intro i n o hn ho
    rcases cases' i o ho with ⟨hi, ho⟩ | ⟨j, rfl, hq⟩
    · rw [getNL i hi] at hn; exact h.same i n o hn ho
    · rw [getNR] at hn; exact (hs j n o hn hq).1
  · intro i o ho
    rcases cases' i o ho with ⟨hi, ho⟩ | ⟨j, rfl, hq⟩
    · exact (h.kids i o ho).more ms
    · obtain ⟨m, hm, _, _, h1, h2, _, _, hk⟩ := newO j o hq
      rw [hk]
      have hjl : j < ms.length := (List.getElem?_eq_some_iff.1 hm).1
      refine ⟨by simp [h.len]; omega, ⟨⟨?_, ?_⟩, trivial⟩, List.nodup_nil, by simp⟩
      · simp only [fwd, if_true, fld, getNR, hm]; exact h1
      · simp only [bwd, if_true, fld, getNR, hm]; exact h2
  · intro i o c ho hc
    rcases cases' i o ho with ⟨hi, ho⟩ | ⟨j, rfl, hq⟩
    · obtain ⟨m, hm, hu⟩ := h.down i o c ho hc
      exact ⟨m, (getL c (old hm)).trans hm, hu⟩
    · obtain ⟨m, _, _, _, _, _, _, _, hk⟩ := newO j o hq
      rw [hk] at hc; simp at hc
  · intro i o ho
    rcases cases' i o ho with ⟨hi, ho⟩ | ⟨j, rfl, hq⟩
    · rcases h.up i o ho with e | ⟨p, m, e, hm, hi⟩
      · exact .inl e
      · exact .inr ⟨p, m, e, (getL p (old hm)).trans hm, hi⟩
    · exact .inl (newUp j o hq)
  · intro i o ho hk
    rcases cases' i o ho with ⟨hi, ho⟩ | ⟨j, rfl, hq⟩
    · exact h.alone i o ho hk
    · exact newUp j o hq
  · intro i n hn hp
    by_cases hi : i < os.length
    · rw [getNL i hi] at hn; exact h.loose i n hn hp
    · rw [show i = os.length + (i - os.length) by omega, getNR] at hn
      obtain ⟨q, hq⟩ : ∃ q, qs[i - os.length]? = some q := ⟨_, List.getElem?_eq_getElem (by rw [← hl]; exact (List.getElem?_eq_some_iff.1 hn).1)⟩
      obtain ⟨_, _, _, _, h4, h5, _⟩ := hs _ n q hn hq
      exact ⟨h4, h5⟩
  · intro i o ho
    rcases cases' i o ho with ⟨hi, ho⟩ | ⟨j, rfl, hq⟩
    · rcases h.inner i o ho with e | ⟨e, m, hm, hh⟩
      · exact .inl e
      · exact .inr ⟨e, m, (getL _ (old hm)).trans hm, hh⟩
    · rcases hin j o hq with e | ⟨e, m, hm, hh⟩
      · exact .inl e
      · exact .inr ⟨e, m, (getR (j + 1)).trans hm, hh⟩
  · intro i o ho
    rcases cases' i o ho with ⟨hi, ho⟩ | ⟨j, rfl, hq⟩
    · rcases h.host i o ho with e | ⟨hk, q, m, e, hq, hm, hi⟩
      · exact .inl e
      · exact .inr ⟨hk, q, m, e, hq, (getL q (old hm)).trans hm, hi⟩
    · rcases hho j o hq with e | ⟨hk, k, m, rfl, e, hm, hi, _⟩
      · exact .inl e
      · exact .inr ⟨hk, os.length + k, m, e, by omega, (getR k).trans hm, hi⟩
  · intro i hi
    by_cases hlt : i < os.length
    · obtain ⟨path, hp⟩ := h.ends i hlt
      exact ⟨path, pathL hp⟩
    · obtain ⟨j, rfl⟩ : ∃ j, i = os.length + j := ⟨i - os.length, by omega⟩
      have hj : j < qs.length := by simp at hi; omega
      have hq : qs[j]? = some qs[j] := List.getElem?_eq_getElem hj
      rcases hho j _ hq with e | ⟨hk, k, m, rfl, e, hm, hi, hh⟩
      · refine ⟨[os.length + j], rfl, -1, ?_, rfl⟩
        unfold upO; rw [getR, hq]; simp [newUp j _ hq, e]
      · refine ⟨[os.length + (k + 1), os.length + k], rfl, _, ?_, rfl, -1, ?_, rfl⟩
        · unfold upO; rw [getR, hq]; simp only [Option.map_some, newUp _ _ hq, if_true, e]
        · unfold upO; rw [getR, hm]; simp [newUp k m hm, hh]

def oneM (k : Int) : OneM := { kind := k, space := 0, name := ⟨#[]⟩, data := ⟨#[]⟩, system := ⟨#[]⟩, inner := -1, host := -1, up := -1, attrs := [], kids := [] }

theorem Sim.nil : Sim [] [] :=
  ⟨rfl, fun _ _ _ h => by simp at h, fun _ _ h => by simp at h, fun _ _ _ h => by simp at h, fun _ _ h => by simp at h, fun _ _ h => by simp at h, fun _ _ h => by simp at h, fun _ _ h => by simp at h, fun _ _ h => by simp at h, fun _ h => by simp at h⟩

/-- A node more, without links. -/
theorem Sim.add1 {ns : List NodeM} {os : List OneM} (h : Sim ns os) (m : NodeM) (q : OneM) (hs : Same m q) (h1 : m.parent = -1 ∧ m.first = -1 ∧ m.last = -1 ∧ m.prev = -1 ∧ m.next = -1) (hk : q.kids = []) (hi : q.inner = -1) (hh : q.host = -1) : Sim (ns ++ [m]) (os ++ [q]) := by
  have one : ∀ {α : Type} {x y : α} {j : Nat}, [x][j]? = some y → y = x := fun {α x y j} e => by
    have := List.mem_of_getElem? e
    simpa using this
  refine h.adds [m] [q] rfl (fun j m' q' hm hq => ?_) (fun j q' hq => ?_) (fun j q' hq => ?_)
  · rw [one hm, one hq]; exact ⟨hs, h1.1, h1.2.1, h1.2.2.1, h1.2.2.2.1, h1.2.2.2.2, hk⟩
  · rw [one hq]; exact .inl hi
  · rw [one hq]; exact .inl hh

/-- A template and its contents. -/
theorem Sim.add2 {ns : List NodeM} {os : List OneM} (h : Sim ns os) (m1 m2 : NodeM) (q1 q2 : OneM) (hs1 : Same m1 q1) (hs2 : Same m2 q2) (h1 : m1.parent = -1 ∧ m1.first = -1 ∧ m1.last = -1 ∧ m1.prev = -1 ∧ m1.next = -1) (h2 : m2.parent = -1 ∧ m2.first = -1 ∧ m2.last = -1 ∧ m2.prev = -1 ∧ m2.next = -1)
    (k1 : q1.kids = []) (k2 : q2.kids = []) (i1 : q1.inner = (os.length : Int) + 1) (i2 : q2.inner = -1) (o1 : q1.host = -1) (o2 : q2.host = (os.length : Int)) (hk : q2.kind = 5) : Sim (ns ++ [m1, m2]) (os ++ [q1, q2]) := by
  have two : ∀ {α : Type} {x y z : α} {j : Nat}, [x, y][j]? = some z → (j = 0 ∧ z = x) ∨ (j = 1 ∧ z = y) := fun {α x y z j} e => by
    match j, e with
    | 0, e => simp at e; exact .inl ⟨rfl, e.symm⟩
    | 1, e => simp at e; exact .inr ⟨rfl, e.symm⟩
  refine h.adds [m1, m2] [q1, q2] rfl (fun j m' q' hm hq => ?_) (fun j q' hq => ?_) (fun j q' hq => ?_)
  · rcases two hm with ⟨rfl, rfl⟩ | ⟨rfl, rfl⟩
    · simp at hq; subst hq; exact ⟨hs1, h1.1, h1.2.1, h1.2.2.1, h1.2.2.2.1, h1.2.2.2.2, k1⟩
    · simp at hq; subst hq; exact ⟨hs2, h2.1, h2.2.1, h2.2.2.1, h2.2.2.2.1, h2.2.2.2.2, k2⟩
  · rcases two hq with ⟨rfl, rfl⟩ | ⟨rfl, rfl⟩
    · exact .inr ⟨by simpa using i1, q2, by simp, by simpa using o2⟩
    · exact .inl i2
  · rcases two hq with ⟨rfl, rfl⟩ | ⟨rfl, rfl⟩
    · exact .inl o1
    · exact .inr ⟨hk, 0, q1, rfl, by simpa using o2, by simp, by simpa using i1, o1⟩

theorem Sim.new : Sim [blankM 0] [oneM 0] :=
  Sim.nil.add1 (blankM 0) (oneM 0) ⟨rfl, rfl, rfl, rfl, rfl, rfl, rfl, rfl⟩ ⟨rfl, rfl, rfl, rfl, rfl⟩ rfl rfl rfl

theorem mem_inPath {path : List Nat} {c : Nat} : inPath path (c : Int) = true ↔ c ∈ path := by
  unfold inPath
  rw [List.any_eq_true]
  constructor
  · rintro ⟨x, hx, e⟩
    have : x = c := by have := of_decide_eq_true e; omega
    exact this ▸ hx
  · intro h; exact ⟨c, h, by simp⟩

/-- Whoever stands above another one has a child, or contents. -/
theorem Sim.above_has {ns : List NodeM} {os : List OneM} (h : Sim ns os) {c : Nat} {oc : OneM} (hoc : os[c]? = some oc) (hk : oc.kids = []) (hi : oc.inner = -1) : ∀ {path : List Nat} {k : Int}, PathOf (upO os) k path → c ∈ path → k = (c : Int)
  | [], _, _, hc => by simp at hc
  | i :: r, k, hp, hc => by
    obtain ⟨rfl, m, hm, hr⟩ := hp
    rcases List.mem_cons.1 hc with rfl | hc
    · rfl
    · have hmc := h.above_has hoc hk hi hr hc
      subst hmc
      unfold upO at hm
      cases ho : os[i]? with
      | none => rw [ho] at hm; simp at hm
      | some o =>
        rw [ho] at hm
        simp only [Option.map_some, Option.some.injEq] at hm
        by_cases hu : o.up = -1
        · rw [if_pos hu] at hm
          rcases h.host i o ho with e | ⟨_, q, mm, e, hq, hmm, hin⟩
          · omega
          · have : q = c := by omega
            subst this
            rw [hoc] at hmm; cases hmm; omega
        · rw [if_neg hu] at hm
          rcases h.up i o ho with e | ⟨q, mm, e, hmm, hin⟩
          · exact absurd e hu
          · have : q = c := by omega
            subst this
            rw [hoc] at hmm; cases hmm
            rw [hk] at hin; simp at hin

theorem Sim.first_nil {ns : List NodeM} {os : List OneM} (h : Sim ns os) {i : Nat} {n : NodeM} {o : OneM} (hn : ns[i]? = some n) (ho : os[i]? = some o) : n.first = headI o.kids ∧ n.last = lastI o.kids := by
  have hK := h.kids i o ho
  constructor
  · obtain ⟨Y, hY⟩ := cut_right o.kids
    have hch := hK.chain
    rw [ring_eq, hY] at hch
    have := hch.1.1
    simpa [fwd, fld, hn] using this
  · obtain ⟨X, hX⟩ := cut_left o.kids
    have hch := hK.chain
    have hr : ring o.kids = X ++ lastI o.kids :: -1 :: [] := by rw [ring_eq, ← List.cons_append, hX]; simp
    rw [hr, Ch_append] at hch
    have := hch.2.1.2
    simpa [bwd, fld, hn] using this

theorem Sim.covers {ns : List NodeM} {os : List OneM} (h : Sim ns os) {c p : Nat} {nc : NodeM} (hnc : ns[c]? = some nc) {path : List Nat} (hpath : PathOf (upO os) p path) : coversM c nc p path = inPath path c := by
  obtain ⟨oc, hoc, sm⟩ := h.getO hnc
  unfold coversM
  split
  · rename_i hcnd
    have hk : oc.kids = [] := by
      have := (h.first_nil hnc hoc).1
      rw [hcnd.1] at this
      cases hks : oc.kids with
      | nil => rfl
      | cons x l => rw [hks] at this; simp [headI] at this
    have hi : oc.inner = -1 := by rw [← sm.inner]; exact hcnd.2
    by_cases e : c = p
    · subst e
      rw [mem_inPath.2 (path_head hpath)]; simp
    · have : inPath path c = false := by
        rw [Bool.eq_false_iff]; intro hm
        have := h.above_has hoc hk hi hpath (mem_inPath.1 hm)
        omega
      rw [this]; simpa using e
  · rfl
end Go.Proofs.Ytlbkoafeedlfaaa
