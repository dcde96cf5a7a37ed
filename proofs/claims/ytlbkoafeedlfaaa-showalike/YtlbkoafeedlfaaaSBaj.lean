/-
  A child put in, a child taken out: both still agree. Plain, no walk.
-/
import Derived.Test.YtlbkoafeedlfaaaSBai
namespace Go.Proofs.Ytlbkoafeedlfaaa
open Go.RowKit

def insO (kids : List Nat) (b : Int) (c : Nat) : List Nat := if b = -1 then kids ++ [c] else kids.flatMap fun (x : Nat) => if (x : Int) = b then [c, x] else [x]
def linkO (os : List OneM) (p c : Nat) (b : Int) : List OneM := (os.modify p fun o => { o with kids := insO o.kids b c }).modify c fun o => { o with up := (p : Int) }
def unlinkO (os : List OneM) (p c : Nat) : List OneM := (os.modify p fun o => { o with kids := o.kids.filter (· ≠ c) }).modify c fun o => { o with up := -1 }

theorem linkO_len (os : List OneM) (p c : Nat) (b : Int) : (linkO os p c b).length = os.length := by simp [linkO]
theorem unlinkO_len (os : List OneM) (p c : Nat) : (unlinkO os p c).length = os.length := by simp [unlinkO]

theorem linkO_get (os : List OneM) (p c : Nat) (b : Int) (i : Nat) :
    (linkO os p c b)[i]? = (os[i]?).map fun o => { o with up := if i = c then (p : Int) else o.up, kids := if i = p then insO o.kids b c else o.kids } := by
  simp only [linkO, List.getElem?_modify]
  cases os[i]? with
  | none => rfl
  | some o =>
    by_cases h1 : i = c <;> by_cases h2 : i = p
    · simp [h1.symm, h2.symm]
    · have h2' : ¬ p = i := fun e => h2 e.symm
      simp [h1.symm, h2, h2']
    · have h1' : ¬ c = i := fun e => h1 e.symm
      simp [h1, h1', h2.symm]
    · have h1' : ¬ c = i := fun e => h1 e.symm
      have h2' : ¬ p = i := fun e => h2 e.symm
      simp [h1, h1', h2, h2']
theorem unlinkO_get (os : List OneM) (p c : Nat) (i : Nat) :
    (unlinkO os p c)[i]? = (os[i]?).map fun o => { o with up := if i = c then -1 else o.up, kids := if i = p then o.kids.filter (· ≠ c) else o.kids } := by
  simp only [unlinkO, List.getElem?_modify]
  cases os[i]? with
  | none => rfl
  | some o =>
    by_cases h1 : i = c <;> by_cases h2 : i = p
    · simp [h1.symm, h2.symm]
    · have h2' : ¬ p = i := fun e => h2 e.symm
      simp [h1.symm, h2, h2']
    · have h1' : ¬ c = i := fun e => h1 e.symm
      simp [h1, h1', h2.symm]
    · have h1' : ¬ c = i := fun e => h1 e.symm
      have h2' : ¬ p = i := fun e => h2 e.symm
      simp [h1, h1', h2, h2']

theorem insO_none {l : List Nat} {b : Int} {c : Nat} (h : ∀ x ∈ l, (x : Int) ≠ b) : (l.flatMap fun (x : Nat) => if (x : Int) = b then [c, x] else [x]) = l := by
  induction l with
  | nil => rfl
  | cons x l ih =>
    rw [List.flatMap_cons, ih (fun y hy => h y (by simp [hy])), if_neg (h x (by simp))]; rfl
theorem insO_cut {kids : List Nat} (hn : kids.Nodup) {b : Int} (hb : b = -1 ∨ ∃ x ∈ kids, b = (x : Int)) (c : Nat) : ∃ A B, kids = A ++ B ∧ insO kids b c = A ++ c :: B ∧ headI B = b := by
  rcases hb with rfl | ⟨x, hx, rfl⟩
  · exact ⟨kids, [], by simp, by simp [insO], rfl⟩
  · obtain ⟨A, B, rfl⟩ := List.append_of_mem hx
    rw [List.nodup_append] at hn
    obtain ⟨n1, n2, n3⟩ := hn
    rw [List.nodup_cons] at n2
    refine ⟨A, x :: B, rfl, ?_, rfl⟩
    have hne : ¬ ((x : Int) = -1) := by omega
    have f1 : ∀ y ∈ A, (y : Int) ≠ (x : Int) := fun y hy => by have := n3 y hy x (by simp); omega
    have f2 : ∀ y ∈ B, (y : Int) ≠ (x : Int) := fun y hy e => n2.1 ((show y = x by omega) ▸ hy)
    rw [insO, if_neg hne, List.flatMap_append, List.flatMap_cons, if_pos rfl, insO_none f1, insO_none f2]
    rfl
theorem filter_cut {A B : List Nat} {c : Nat} (hn : (A ++ c :: B).Nodup) : (A ++ c :: B).filter (· ≠ c) = A ++ B := by
  rw [List.nodup_append] at hn
  obtain ⟨n1, n2, n3⟩ := hn
  rw [List.nodup_cons] at n2
  rw [List.filter_append, List.filter_cons]
  have h1 : A.filter (· ≠ c) = A := List.filter_eq_self.2 (fun x hx => by simpa using n3 x hx c (by simp))
  have h2 : B.filter (· ≠ c) = B := List.filter_eq_self.2 (fun x hx => by
    simp only [ne_eq, decide_eq_true_eq]; intro e; exact n2.1 (e ▸ hx))
  rw [h1, h2]; simp

/-- A way up that is sent another way at one node. -/
theorem path_turn {f g : Nat → Option Int} {c : Nat} {p : Int} {P : List Nat} (hc : g c = some p) (ho : ∀ x, x ≠ c → g x = f x) (hP : PathOf g p P) : ∀ {path : List Nat} {k : Int}, PathOf f k path → ∃ path', PathOf g k path'
  | [], _, h => ⟨[], h⟩
  | i :: r, k, h => by
    obtain ⟨rfl, m, hm, hr⟩ := h
    by_cases e : i = c
    · subst e; exact ⟨i :: P, rfl, p, hc, hP⟩
    · obtain ⟨r', hr'⟩ := path_turn hc ho hP hr
      exact ⟨i :: r', rfl, m, (ho i e).trans hm, hr'⟩
theorem path_congr {f g : Nat → Option Int} : ∀ {path : List Nat} {k : Int}, (∀ x ∈ path, g x = f x) → PathOf f k path → PathOf g k path
  | [], _, _, h => h
  | i :: r, k, ho, h => by
    obtain ⟨rfl, m, hm, hr⟩ := h
    exact ⟨rfl, m, (ho i (by simp)).trans hm, path_congr (fun x hx => ho x (by simp [hx])) hr⟩
theorem path_head {f : Nat → Option Int} {i : Nat} {path : List Nat} (h : PathOf f i path) : i ∈ path := by
  cases path with
  | nil => have : (i : Int) = -1 := h; omega
  | cons j r =>
    obtain ⟨e, _⟩ := h
    have : i = j := by omega
    simp [this]
theorem path_one {f : Nat → Option Int} : ∀ {path path' : List Nat} {k : Int}, PathOf f k path → PathOf f k path' → path = path'
  | [], [], _, _, _ => rfl
  | [], j :: _, _, h, h' => by
    have e : _ = (-1 : Int) := h
    have := h'.1; omega
  | i :: _, [], _, h, h' => by
    have e : _ = (-1 : Int) := h'
    have := h.1; omega
  | i :: r, j :: r', _, h, h' => by
    obtain ⟨rfl, m, hm, hr⟩ := h
    obtain ⟨e, m', hm', hr'⟩ := h'
    have : i = j := by omega
    subst this
    rw [hm] at hm'
    cases hm'
    rw [path_one hr hr']

theorem fld_get {f : NodeM → Int} {ns : List NodeM} {i : Nat} {n : NodeM} {v : Int} (hn : ns[i]? = some n) (h : fld f ns i = v) : f n = v := by rw [← fld_of (f := f) hn]; exact h

theorem Sim.prev {ns : List NodeM} {os : List OneM} (h : Sim ns os) {p : Nat} {np : NodeM} {op : OneM} (hp : ns[p]? = some np) (hop : os[p]? = some op) {A B : List Nat} (hk : op.kids = A ++ B) : prevM ns np (headI B) = lastI A ∧ okK ns (lastI A) ∧ okK ns (headI B) := by
  have hK := h.kids p op hop
  rw [hk] at hK
  obtain ⟨X, hX⟩ := cut_left A
  obtain ⟨Y, hY⟩ := cut_right B
  obtain ⟨ok1, ok2, _⟩ := cut_facts hK.nodup hK.mem hX hY
  refine ⟨?_, ok1, ok2⟩
  have hch := hK.chain
  rw [ring_cut hX hY, Ch_append] at hch
  have hb := hch.2.1.2
  unfold prevM
  by_cases e : headI B = -1
  · rw [if_pos e]
    rw [e] at hb
    simpa [bwd, fld, hp] using hb
  · rw [if_neg e]
    simpa [bwd, fld, e] using hb

theorem Sim.link {ns : List NodeM} {os : List OneM} (h : Sim ns os) {p c : Nat} {np : NodeM} {op oc : OneM} (hp : ns[p]? = some np) (hop : os[p]? = some op) (hoc : os[c]? = some oc) (hup : oc.up = -1) (hk0 : oc.kind ≠ 0) (hk5 : oc.kind ≠ 5)
    {b : Int} (hb : b = -1 ∨ ∃ x ∈ op.kids, b = (x : Int)) {path : List Nat} (hpath : PathOf (upO os) p path) (hnot : c ∉ path) : Sim (linkM ns p c b (prevM ns np b)) (linkO os p c b) := by
  have hK := h.kids p op hop
  obtain ⟨A, B, hkids, hins, hhead⟩ := insO_cut hK.nodup hb c
  obtain ⟨e1, ok1, ok2⟩ := h.prev hp hop hkids
  rw [← hhead] at hins ⊢
  rw [e1]
  have hclt : c < ns.length := by rw [h.len]; exact (List.getElem?_eq_some_iff.1 hoc).1
  have hpc : p ≠ c := fun e => hnot (e ▸ path_head hpath)
  have c_out : ∀ (q : Nat) o, os[q]? = some o → c ∉ o.kids := fun q o ho hx => by
    obtain ⟨m, hm, hu⟩ := h.down q o c ho hx
    rw [hoc] at hm; cases hm; omega
  have lastA : lastI A = -1 ∨ ∃ x ∈ op.kids, lastI A = (x : Int) := by
    rcases lastI_mem (A := A) with e | ⟨x, hx, e⟩
    · exact .inl e
    · exact .inr ⟨x, by rw [hkids]; simp [hx], e⟩
  have headB : headI B = -1 ∨ ∃ x ∈ op.kids, headI B = (x : Int) := by
    rcases headI_mem (B := B) with e | ⟨x, hx, e⟩
    · exact .inl e
    · exact .inr ⟨x, by rw [hkids]; simp [hx], e⟩
  -- what is not below p is none of the two neighbours
  have far : ∀ (k : Int) (z : Int), (z = -1 ∨ ∃ x ∈ op.kids, z = (x : Int)) → (k = -1 ∨ ∃ (y : Nat) (m : OneM), k = (y : Int) ∧ os[y]? = some m ∧ m.up ≠ (p : Int)) → k = -1 ∨ k ≠ z := by
    rintro k z hz (hk | ⟨y, m, rfl, hm, hu⟩)
    · exact .inl hk
    · right
      rcases hz with rfl | ⟨x, hx, rfl⟩
      · omega
      · intro e
        have : y = x := by omega
        subst this
        obtain ⟨m', hm', hu'⟩ := h.down p op y hop hx
        rw [hm] at hm'; cases hm'; exact hu hu'
  have okOf : ∀ (k : Int), (k = -1 ∨ ∃ (y : Nat) (m : OneM), k = (y : Int) ∧ os[y]? = some m ∧ m.up ≠ (p : Int)) → okK ns k := by
    rintro k (hk | ⟨y, m, rfl, hm, _⟩)
    · exact .inl hk
    · exact .inr ⟨y, rfl, by rw [h.len]; exact (List.getElem?_eq_some_iff.1 hm).1⟩
  have upOther : ∀ x, x ≠ c → upO (linkO os p c (headI B)) x = upO os x := by
    intro x hx
    unfold upO
    rw [linkO_get]
    cases os[x]? with
    | none => rfl
    | some o => simp [hx]
  have upC : upO (linkO os p c (headI B)) c = some (p : Int) := by
    unfold upO
    rw [linkO_get, hoc]
    have : ¬ ((p : Int) = -1) := by omega
    simp [this]
  refine ⟨by rw [linkM_len, linkO_len, h.len], ?_, ?_, ?_, ?_, ?_, ?_, ?_, ?_, ?_⟩
  · intro i n' o' hn' ho'
    obtain ⟨n, hn, lk⟩ := like_link ns p c (headI B) (lastI A) i n' hn'
    rw [linkO_get] at ho'
    obtain ⟨o, ho, sm⟩ := h.getO hn
    rw [ho] at ho'
    simp only [Option.map_some, Option.some.injEq] at ho'
    subst ho'
    refine ⟨lk.kind.trans sm.kind, lk.space.trans sm.space, lk.name.trans sm.name, lk.data.trans sm.data, lk.system.trans sm.system, lk.inner.trans sm.inner, lk.attrs.trans sm.attrs, ?_⟩
    have hpar := parent_link ns p c (headI B) (lastI A) i hclt
    rw [fld_of hn', fld_of hn] at hpar
    rw [hpar]
    by_cases e : i = c
    · simp [e]
    · simp only [e, if_false]; exact sm.up
  · intro i o' ho'
    rw [linkO_get] at ho'
    cases ho : os[i]? with
    | none => rw [ho] at ho'; simp at ho'
    | some o =>
      rw [ho] at ho'
      simp only [Option.map_some, Option.some.injEq] at ho'
      subst ho'
      by_cases e : i = p
      · subst e
        rw [hop] at ho; cases ho
        simp only [if_true]
        rw [hins]
        have hK' := hK
        rw [hkids] at hK'
        exact hK'.insert hclt (by rw [← hkids]; exact c_out i op hop)
      · simp only [e, if_false]
        refine (h.kids i o ho).keep (linkM_len _ _ _ _ _) (fun k hk => ?_)
        have hk' : k = -1 ∨ ∃ (y : Nat) (m : OneM), k = (y : Int) ∧ os[y]? = some m ∧ m.up ≠ (p : Int) := by
          rcases hk with hk | ⟨x, hx, rfl⟩
          · exact .inl hk
          · obtain ⟨m, hm, hu⟩ := h.down i o x ho hx
            exact .inr ⟨x, m, rfl, hm, by omega⟩
        have hkc : k ≠ (c : Int) := by
          rcases hk with hk | ⟨x, hx, rfl⟩
          · omega
          · intro e'
            have : x = c := by omega
            exact c_out i o ho (this ▸ hx)
        exact ⟨fwd_link_other (fun e' => e e'.symm) hclt ok1 (okOf k hk') (far k _ lastA hk') hkc, bwd_link_other (fun e' => e e'.symm) hclt ok2 (okOf k hk') (far k _ headB hk') hkc⟩
  · intro i o' x ho' hx
    rw [linkO_get] at ho' 
    rw [linkO_get]
    cases ho : os[i]? with
    | none => rw [ho] at ho'; simp at ho'
    | some o =>
      rw [ho] at ho'
      simp only [Option.map_some, Option.some.injEq] at ho'
      subst ho'
      by_cases e : i = p
      · subst e
        rw [hop] at ho; cases ho
        simp only [if_true] at hx
        rw [hins] at hx
        have hx' : x = c ∨ x ∈ op.kids := by
          rw [hkids]
          rcases List.mem_append.1 hx with h1 | h1
          · simp [h1]
          · rcases List.mem_cons.1 h1 with h1 | h1 <;> simp [h1]
        rcases hx' with rfl | hx'
        · rw [hoc]; exact ⟨_, rfl, by simp⟩
        · obtain ⟨m, hm, hu⟩ := h.down i op x hop hx'
          have hxc : x ≠ c := fun e' => c_out i op hop (e' ▸ hx')
          rw [hm]; exact ⟨_, rfl, by simp [hxc, hu]⟩
      · simp only [e, if_false] at hx
        obtain ⟨m, hm, hu⟩ := h.down i o x ho hx
        have hxc : x ≠ c := fun e' => c_out i o ho (e' ▸ hx)
        rw [hm]; exact ⟨_, rfl, by simp [hxc, hu]⟩
  · intro i o' ho'
    rw [linkO_get] at ho'
    cases ho : os[i]? with
    | none => rw [ho] at ho'; simp at ho'
    | some o =>
      rw [ho] at ho'
      simp only [Option.map_some, Option.some.injEq] at ho'
      subst ho'
      by_cases e : i = c
      · subst e
        right
        refine ⟨p, { op with kids := insO op.kids (headI B) i }, by simp, ?_, ?_⟩
        · rw [linkO_get, hop]; simp [hpc]
        · simp only; rw [hins]; simp
      · simp only [e, if_false]
        rcases h.up i o ho with hu | ⟨q, m, hu, hm, hi⟩
        · exact .inl hu
        · refine .inr ⟨q, { m with up := if q = c then (p : Int) else m.up, kids := if q = p then insO m.kids (headI B) c else m.kids }, hu, by rw [linkO_get, hm]; rfl, ?_⟩
          by_cases e2 : q = p
          · subst e2
            rw [hop] at hm; cases hm
            simp only [if_true]
            rw [hins]
            rw [hkids] at hi
            rcases List.mem_append.1 hi with h1 | h1 <;> simp [h1]
          · simp only [e2, if_false]; exact hi
  · intro i o' ho' hk
    rw [linkO_get] at ho'
    cases ho : os[i]? with
    | none => rw [ho] at ho'; simp at ho'
    | some o =>
      rw [ho] at ho'
      simp only [Option.map_some, Option.some.injEq] at ho'
      subst ho'
      by_cases e : i = c
      · subst e
        rw [hoc] at ho; cases ho
        rcases hk with hk | hk
        · exact absurd hk hk0
        · exact absurd hk hk5
      · simp only [e, if_false]; exact h.alone i o ho hk
  · intro i n' hn' hpar
    obtain ⟨n, hn, lk⟩ := like_link ns p c (headI B) (lastI A) i n' hn'
    obtain ⟨o, ho, sm⟩ := h.getO hn
    have hp1 := parent_link ns p c (headI B) (lastI A) i hclt
    rw [fld_of hn', fld_of hn, hpar] at hp1
    by_cases e : i = c
    · rw [if_pos e] at hp1; omega
    · rw [if_neg e] at hp1
      have hu : o.up = -1 := by rw [← sm.up]; exact hp1.symm
      obtain ⟨l1, l2⟩ := h.loose i n hn hp1.symm
      have hk' : (i : Int) = -1 ∨ ∃ (y : Nat) (m : OneM), (i : Int) = (y : Int) ∧ os[y]? = some m ∧ m.up ≠ (p : Int) := .inr ⟨i, o, rfl, ho, by omega⟩
      have hic : (i : Int) ≠ (c : Int) := by omega
      have hpi : ∃ q, p ≠ q := ⟨p + 1, by omega⟩
      obtain ⟨q, hq⟩ := hpi
      have f1 := fwd_link_other (b := headI B) hq hclt ok1 (okOf _ hk') (far _ _ lastA hk') hic
      have f2 := bwd_link_other (a := lastI A) hq hclt ok2 (okOf _ hk') (far _ _ headB hk') hic
      have ni : ¬ ((i : Int) = -1) := by omega
      simp only [fwd, bwd, ni, if_false, Int.toNat_natCast, fld_of hn', fld_of hn] at f1 f2
      exact ⟨f2.trans l1, f1.trans l2⟩
  · intro i o' ho'
    rw [linkO_get] at ho'
    cases ho : os[i]? with
    | none => rw [ho] at ho'; simp at ho'
    | some o =>
      rw [ho] at ho'
      simp only [Option.map_some, Option.some.injEq] at ho'
      subst ho'
      rcases h.inner i o ho with e | ⟨e, m, hm, hh⟩
      · exact .inl e
      · refine .inr ⟨e, _, (linkO_get _ _ _ _ _).trans (by rw [hm]; rfl), ?_⟩
        exact hh
  · intro i o' ho'
    rw [linkO_get] at ho'
    cases ho : os[i]? with
    | none => rw [ho] at ho'; simp at ho'
    | some o =>
      rw [ho] at ho'
      simp only [Option.map_some, Option.some.injEq] at ho'
      subst ho'
      rcases h.host i o ho with e | ⟨hk, q, m, e, hq, hm, hi⟩
      · exact .inl e
      · refine .inr ⟨hk, q, _, e, hq, (linkO_get _ _ _ _ _).trans (by rw [hm]; rfl), ?_⟩
        exact hi
  · intro i hi
    rw [linkO_len] at hi
    obtain ⟨pi, hpi⟩ := h.ends i hi
    exact path_turn upC upOther (path_congr (fun x hx => upOther x (fun e => hnot (e ▸ hx))) hpath) hpi
end Go.Proofs.Ytlbkoafeedlfaaa
