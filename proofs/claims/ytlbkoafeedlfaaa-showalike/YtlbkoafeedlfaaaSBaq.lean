/-
  What the calls of package node that make or change a node do to an arena, told by its plain nodes. Attributes set and taken away; what is told of a node: by plain nodes.
-/
import Derived.Test.YtlbkoafeedlfaaaSBam
import Derived.Test.YtlbkoafeedlfaaaSBan
import Derived.Test.YtlbkoafeedlfaaaSBap
namespace Go.Proofs.Ytlbkoafeedlfaaa
open Go.RowKit

def USim (F : Nat → Prop) (w w' : World) (base bA : Nat) (os : List OneM) : Prop := ∃ ms, Upd F w w' base bA ms ∧ Sim ms os

def dataQ (kind : Int) (s : ByteArray) : OneM := { oneM kind with data := s }
def elemQ (space : Int) (name : ByteArray) (l : List AttrM) : OneM := { oneM 1 with space := space, name := name, attrs := l }
def docQ (n p s : ByteArray) : OneM := { oneM 4 with name := n, data := p, system := s }
/-- A node more, if there is room: the nodes, its number, the error. -/
def addO (os : List OneM) (q : OneM) : List OneM × Int × Int := if os.length + 1 ≤ 32768 then (os ++ [q], (os.length : Int), 0) else (os, 0, 9)
def dataO (os : List OneM) (kind : Int) (s : ByteArray) : List OneM × Int × Int := if longS s then (os, 0, 2) else addO os (dataQ kind s)
def docO (os : List OneM) (n p s : ByteArray) : List OneM × Int × Int := if longS n || longS p || longS s then (os, 0, 2) else addO os (docQ n p s)
def fragO (os : List OneM) : List OneM × Int × Int := addO os (oneM 5)
def elemO (os : List OneM) (space : Int) (name : ByteArray) (l : List AttrM) : List OneM × Int × Int :=
  if space < 0 ∨ 2 < space then (os, 0, 1)
  else if longE name l then (os, 0, 2)
  else if space = 0 ∧ isT name = true then
    (if os.length + 2 ≤ 32768 then (os ++ [{ elemQ space name l with inner := (os.length : Int) + 1 }, { oneM 5 with host := (os.length : Int) }], (os.length : Int), 0) else (os, 0, 9))
  else addO os (elemQ space name l)

section
variable {w : World} {base bA : Nat} {ns : List NodeM} {os : List OneM} {F : Nat → Prop}

theorem data_sim {K : Nat} (hs : Sim ns os) (kind : Int) (s : ByteArray) (hc : Calls Try.prog K #[.pointer (some ⟨bA, 0, none⟩), .string s] w fun e w' => e = .returned (.tuple #[.int .i64 (dataR ns kind s).2.1, .int .i64 (dataR ns kind s).2.2]) ∧ Upd F w w' base bA (dataR ns kind s).1) :
    Calls Try.prog K #[.pointer (some ⟨bA, 0, none⟩), .string s] w fun e w' => e = .returned (.tuple #[.int .i64 (dataO os kind s).2.1, .int .i64 (dataO os kind s).2.2]) ∧ USim F w w' base bA (dataO os kind s).1 := by
  refine hc.mono fun e w' ⟨h1, h2⟩ => ?_
  unfold dataR at h1 h2
  unfold dataO addO
  rw [← hs.len]
  by_cases hl : longS s = true
  · simp only [hl, if_true] at h1 h2 ⊢
    exact ⟨h1, ns, h2, hs⟩
  · simp only [hl] at h1 h2 ⊢
    by_cases hf : ns.length + 1 ≤ 32768
    · simp only [hf, if_true] at h1 h2 ⊢
      exact ⟨h1, _, h2, hs.add1 _ _ ⟨rfl, rfl, rfl, rfl, rfl, rfl, rfl, rfl⟩ ⟨rfl, rfl, rfl, rfl, rfl⟩ rfl rfl rfl⟩
    · simp only [hf, if_false] at h1 h2 ⊢
      exact ⟨h1, ns, h2, hs⟩

theorem text_sim (ha : ArS w base bA ns F) (hs : Sim ns os) (s : ByteArray) :
    Calls Try.prog 64 #[.pointer (some ⟨bA, 0, none⟩), .string s] w fun e w' => e = .returned (.tuple #[.int .i64 (dataO os 2 s).2.1, .int .i64 (dataO os 2 s).2.2]) ∧ USim F w w' base bA (dataO os 2 s).1 := data_sim hs 2 s (text_any ha s)
theorem comment_sim (ha : ArS w base bA ns F) (hs : Sim ns os) (s : ByteArray) :
    Calls Try.prog 67 #[.pointer (some ⟨bA, 0, none⟩), .string s] w fun e w' => e = .returned (.tuple #[.int .i64 (dataO os 3 s).2.1, .int .i64 (dataO os 3 s).2.2]) ∧ USim F w w' base bA (dataO os 3 s).1 := data_sim hs 3 s (comment_any ha s)

theorem fragment_sim (ha : ArS w base bA ns F) (hs : Sim ns os) :
    Calls Try.prog 71 #[.pointer (some ⟨bA, 0, none⟩)] w fun e w' => e = .returned (.tuple #[.int .i64 (fragO os).2.1, .int .i64 (fragO os).2.2]) ∧ USim F w w' base bA (fragO os).1 := by
  unfold fragO addO
  rw [← hs.len]
  by_cases hf : ns.length + 1 ≤ 32768
  · simp only [hf, if_true]
    exact (fragment_fits ha hf).mono fun e w' ⟨h1, h2⟩ => ⟨h1, _, h2, hs.add1 _ _ ⟨rfl, rfl, rfl, rfl, rfl, rfl, rfl, rfl⟩ ⟨rfl, rfl, rfl, rfl, rfl⟩ rfl rfl rfl⟩
  · simp only [hf, if_false]
    exact (fragment_full ha hf).mono fun e w' ⟨h1, h2⟩ => ⟨h1, ns, ha.upd h2, hs⟩

theorem doctype_sim (ha : ArS w base bA ns F) (hs : Sim ns os) (n p s : ByteArray) :
    Calls Try.prog 69 #[.pointer (some ⟨bA, 0, none⟩), .string n, .string p, .string s] w fun e w' => e = .returned (.tuple #[.int .i64 (docO os n p s).2.1, .int .i64 (docO os n p s).2.2]) ∧ USim F w w' base bA (docO os n p s).1 := by
  unfold docO addO
  rw [← hs.len]
  cases hl : (longS n || longS p || longS s) with
  | true =>
    simp only [if_true]
    exact (doctype_long ha n p s hl).mono fun e w' ⟨h1, h2⟩ => ⟨h1, ns, ha.upd h2, hs⟩
  | false =>
    by_cases hf : ns.length + 1 ≤ 32768
    · simp only [hf, if_true]
      exact (doctype_fits ha n p s hl hf).mono fun e w' ⟨h1, h2⟩ => ⟨h1, _, h2, hs.add1 _ _ ⟨rfl, rfl, rfl, rfl, rfl, rfl, rfl, rfl⟩ ⟨rfl, rfl, rfl, rfl, rfl⟩ rfl rfl rfl⟩
    · simp only [hf, if_false]
      exact (doctype_full ha n p s hl hf).mono fun e w' ⟨h1, h2⟩ => ⟨h1, ns, ha.upd h2, hs⟩

theorem element_sim (ha : ArS w base bA ns F) (hs : Sim ns os) (space : Int) (name : ByteArray) (a : Option Addr) (cap : Nat) (l : List AttrM) (hl : AttrsIn w a l) (hn : l.length ≤ maxLen) :
    Calls Try.prog 34 #[.pointer (some ⟨bA, 0, none⟩), .int .i64 space, .string name, .slice a l.length cap] w fun e w' => e = .returned (.tuple #[.int .i64 (elemO os space name l).2.1, .int .i64 (elemO os space name l).2.2]) ∧ USim F w w' base bA (elemO os space name l).1 := by
  unfold elemO addO
  rw [← hs.len]
  by_cases h1 : space < 0 ∨ 2 < space
  · simp only [h1, if_true]
    exact (element_space ha space name _ h1).mono fun e w' ⟨h1, h2⟩ => ⟨h1, ns, ha.upd (h2 ▸ Below.refl _ _), hs⟩
  · simp only [h1, if_false]
    have h1' : 0 ≤ space ∧ space ≤ 2 := by omega
    cases h2 : longE name l with
    | true =>
      simp only [if_true]
      exact (element_long ha space name a cap l hl hn h1' h2).mono fun e w' ⟨h1, h2⟩ => ⟨h1, ns, ha.upd h2, hs⟩
    | false =>
      by_cases h3 : space = 0 ∧ isT name = true
      · rw [if_neg (by decide), if_pos h3]
        obtain ⟨rfl, h3⟩ := h3
        by_cases hf : ns.length + 2 ≤ 32768
        · simp only [hf, if_true]
          refine (element_tmpl ha name a cap l hl h3 h2 hf).mono fun e w' ⟨h1, av, h2⟩ => ⟨h1, _, h2, ?_⟩
          have := hs.len
          exact hs.add2 _ _ _ _ ⟨rfl, rfl, rfl, rfl, rfl, by simp, rfl, rfl⟩ ⟨rfl, rfl, rfl, rfl, rfl, rfl, rfl, rfl⟩ ⟨rfl, rfl, rfl, rfl, rfl⟩ ⟨rfl, rfl, rfl, rfl, rfl⟩ rfl rfl (by simp [this]) rfl rfl (by simp [this]) rfl
        · simp only [hf, if_false]
          exact (element_full2 ha name a cap l hl h3 h2 hf).mono fun e w' ⟨h1, h2⟩ => ⟨h1, ns, ha.upd h2, hs⟩
      · rw [if_neg (by decide), if_neg h3]
        have hsp : space = 1 ∨ space = 2 ∨ (space = 0 ∧ isT name = false) := by
          by_cases e0 : space = 0
          · exact .inr (.inr ⟨e0, by simpa [e0] using h3⟩)
          · omega
        by_cases hf : ns.length + 1 ≤ 32768
        · simp only [hf, if_true]
          exact (element_plain ha space name a cap l hl hsp h2 hf).mono fun e w' ⟨h1, av, h2⟩ => ⟨h1, _, h2, hs.add1 _ _ ⟨rfl, rfl, rfl, rfl, rfl, rfl, rfl, rfl⟩ ⟨rfl, rfl, rfl, rfl, rfl⟩ rfl rfl rfl⟩
        · simp only [hf, if_false]
          exact (element_full1 ha space name a cap l hl hsp h2 hf).mono fun e w' ⟨h1, h2⟩ => ⟨h1, ns, ha.upd h2, hs⟩

def setDataE (os : List OneM) (k : Int) (s : ByteArray) : Int := if hasO os k = false then 6 else if kindO os k ≠ 2 ∧ kindO os k ≠ 3 then 10 else if longS s then 2 else 0
def setDataR (os : List OneM) (k : Int) (s : ByteArray) : List OneM := if setDataE os k s = 0 then os.modify k.toNat fun o => { o with data := s } else os

theorem setData_sim (ha : ArS w base bA ns F) (hs : Sim ns os) (k : Int) (s : ByteArray) :
    Calls Try.prog 41 #[.pointer (some ⟨bA, 0, none⟩), .int .i64 k, .string s] w fun e w' => e = .returned (.int .i64 (setDataE os k s)) ∧ USim F w w' base bA (setDataR os k s) := by
  have ha' := ha
  obtain ⟨bS, g, cap, h, hF⟩ := ha
  unfold setDataR setDataE
  cases hh : hasO os k with
  | false =>
    simp only [if_true]
    exact (setData_none h k s (by rw [hs.hasM]; exact hh)).mono fun e w' ⟨h1, h2⟩ => ⟨h1, ns, ha'.upd (h2 ▸ Below.refl _ _), by simpa using hs⟩
  | true =>
    obtain ⟨i, o, rfl, ho⟩ := hasO_yes hh
    obtain ⟨n, hn, sm⟩ := hs.get ho
    simp only [kindO_of ho, Bool.true_eq_false, if_false]
    by_cases hk : o.kind ≠ 2 ∧ o.kind ≠ 3
    · simp only [if_pos hk]
      exact (setData_kind h i n hn s (by rw [sm.kind]; exact hk.1) (by rw [sm.kind]; exact hk.2)).mono fun e w' ⟨h1, h2⟩ => ⟨h1, ns, ha'.upd (h2 ▸ Below.refl _ _), by simpa using hs⟩
    · simp only [if_neg hk]
      have hk' : n.kind = 2 ∨ n.kind = 3 := by rw [sm.kind]; omega
      cases hl : longS s with
      | true =>
        simp only [if_true]
        exact (setData_yes h i n hn s hk' hl).mono fun e w' ⟨h1, h2⟩ => ⟨h1, ns, ha'.upd h2, by simpa using hs⟩
      | false =>
        simp only [if_true, Bool.false_eq_true, if_false, Int.toNat_natCast]
        refine (setData_ok h i n hn s hk' hl).mono fun e w' ⟨h1, h2, h3⟩ => ⟨h1, _, upd_of_mod hF h2 h3 (fun k hk => foot_upd ns i (setDat s) (fun _ => rfl) k hk), ?_⟩
        exact hs.put i _ _ (fun _ => ⟨rfl, rfl, rfl, rfl, rfl⟩) (fun _ => ⟨rfl, rfl, rfl, rfl, rfl⟩) (fun n o sm => ⟨sm.kind, sm.space, sm.name, rfl, sm.system, sm.inner, sm.attrs, sm.up⟩)
end
end Go.Proofs.Ytlbkoafeedlfaaa

namespace Go.Proofs.Ytlbkoafeedlfaaa
open Go.RowKit

theorem upd_of_modF {w w' : World} {base bA bS g cap : Nat} {ns ms : List NodeM} {F : Nat → Prop} (hF : ∀ k, F k ↔ foot bA bS g ns k) (h : Ar w' base bA bS g cap ms) (hm : Mod (foot bA bS g ns) w w')
    (hav : ∀ k, foot bA bS g ms k → foot bA bS g ns k ∨ w.heap.size ≤ k) : Upd F w w' base bA ms :=
  ⟨_, ⟨bS, g, cap, h, fun _ => Iff.rfl⟩, hm.mono (fun k _ hk => (hF k).2 hk), fun k hk => (hav k hk).imp (hF k).2 id⟩

theorem foot_set {bA bS g : Nat} {ns : List NodeM} {i : Nat} {n m : NodeM} (hi : ns[i]? = some n) {B : Nat} (hm : ∀ k, m.av.ownBlock = some k → n.av.ownBlock = some k ∨ B ≤ k) (k : Nat) (h : foot bA bS g (ns.set i m) k) : foot bA bS g ns k ∨ B ≤ k := by
  rcases h with h | h | h | ⟨x, hx, hk⟩
  · exact .inl (.inl h)
  · exact .inl (.inr (.inl h))
  · exact .inl (.inr (.inr (.inl h)))
  · rcases List.mem_or_eq_of_mem_set hx with hx | rfl
    · exact .inl (.inr (.inr (.inr ⟨x, hx, hk⟩)))
    · rcases hm k hk with h1 | h1
      · exact .inl (.inr (.inr (.inr ⟨n, List.mem_of_getElem? hi, h1⟩)))
      · exact .inr h1

def attrIdx (os : List OneM) (k : Int) (space : Int) (name : ByteArray) : Int := idxM (sameKey space name) (((os[k.toNat]?).map (·.attrs)).getD [])
def attrsO (os : List OneM) (k : Int) : List AttrM := ((os[k.toNat]?).map (·.attrs)).getD []
def setL (l : List AttrM) (x : AttrM) : List AttrM := if idxM (sameKey x.space x.name) l = -1 then l ++ [x] else setVal l (idxM (sameKey x.space x.name) l).toNat x.val
def setAttrE (os : List OneM) (k : Int) (x : AttrM) : Int :=
  if hasO os k = false then 6 else if kindO os k ≠ 1 then 10 else if x.long then 2 else if idxM (sameKey x.space x.name) (attrsO os k) = -1 ∧ ¬ (attrsO os k).length < 1024 then 2 else 0
def setAttrR (os : List OneM) (k : Int) (x : AttrM) : List OneM := if setAttrE os k x = 0 then os.modify k.toNat fun o => { o with attrs := setL o.attrs x } else os
def delAttrE (os : List OneM) (k space : Int) (name : ByteArray) : Int :=
  if hasO os k = false then 6 else if kindO os k ≠ 1 then 10 else if idxM (sameKey space name) (attrsO os k) = -1 then 1 else 0
def delAttrR (os : List OneM) (k space : Int) (name : ByteArray) : List OneM := if delAttrE os k space name = 0 then os.modify k.toNat fun o => { o with attrs := o.attrs.eraseIdx (idxM (sameKey space name) o.attrs).toNat } else os

theorem idxM_or (p : AttrM → Bool) (l : List AttrM) : idxM p l = -1 ∨ ∃ j : Nat, idxM p l = (j : Int) := by
  unfold idxM
  split
  · exact .inr ⟨_, rfl⟩
  · exact .inl rfl

section
variable {w : World} {base bA : Nat} {ns : List NodeM} {os : List OneM} {F : Nat → Prop}

theorem mayAttr_eq (hs : Sim ns os) (k : Int) : mayAttrM ns k = if hasO os k = false then 6 else if kindO os k ≠ 1 then 10 else 0 := by
  unfold mayAttrM
  rw [hs.hasM]
  cases hh : hasO os k with
  | false => simp
  | true =>
    obtain ⟨i, o, rfl, ho⟩ := hasO_yes hh
    obtain ⟨n, hn, sm⟩ := hs.get ho
    simp only [Bool.true_eq_false, if_false, kindO_of ho, Int.toNat_natCast, hn, Option.map_some, Option.some.injEq, sm.kind]
    by_cases e : o.kind = 1 <;> simp [e]

theorem setAttr_sim (ha : ArS w base bA ns F) (hs : Sim ns os) (k : Int) (x : AttrM) :
    Calls Try.prog 43 #[.pointer (some ⟨bA, 0, none⟩), .int .i64 k, x.agg] w fun e w' => e = .returned (.int .i64 (setAttrE os k x)) ∧ USim F w w' base bA (setAttrR os k x) := by
  have ha' := ha
  obtain ⟨bS, g, cap, h, hF⟩ := ha
  have hme := mayAttr_eq hs k
  by_cases hm0 : mayAttrM ns k = 0
  · rw [hm0] at hme
    have hh : hasO os k = true := by
      cases hh : hasO os k with
      | true => rfl
      | false => rw [hh] at hme; simp at hme
    have hk1 : kindO os k = 1 := by
      by_cases e : kindO os k = 1
      · exact e
      · rw [hh, if_neg (by decide), if_pos e] at hme; cases hme
    obtain ⟨i, o, rfl, ho⟩ := hasO_yes hh
    obtain ⟨n, hn, sm⟩ := hs.get ho
    rw [kindO_of ho] at hk1
    have hk : n.kind = 1 := by rw [sm.kind]; exact hk1
    have hat : attrsO os (i : Int) = n.attrs := by simp [attrsO, ho, sm.attrs]
    have hE : setAttrE os (i : Int) x = if x.long then 2 else if idxM (sameKey x.space x.name) n.attrs = -1 ∧ ¬ n.attrs.length < 1024 then 2 else 0 := by
      unfold setAttrE
      rw [if_neg (by rw [hh]; decide), if_neg (by rw [kindO_of ho]; simpa using hk1), hat]
    unfold setAttrR
    rw [hE]
    cases hl : x.long with
    | true =>
      simp only [if_true]
      exact (setAttr_long h i x hm0 hl).mono fun e w' ⟨h1, h2⟩ => ⟨h1, ns, ha'.upd h2, by simpa using hs⟩
    | false =>
      simp only [Bool.false_eq_true, if_false]
      rcases idxM_or (sameKey x.space x.name) n.attrs with hj | ⟨j, hj⟩
      · by_cases hmany : n.attrs.length < 1024
        · rw [if_neg (fun e => e.2 hmany), if_pos rfl]
          refine (setAttr_new h i n hn hk x hl hj hmany).mono fun e w' ⟨h1, av, h2, h3, h4⟩ => ⟨h1, _, upd_of_modF hF h2 (h3.mono (fun k _ hk => ?_)) (foot_set hn h4), ?_⟩
          · rcases hk with hk | hk
            · exact .inr (.inr (.inr ⟨n, List.mem_of_getElem? hn, hk⟩))
            · exact .inr (.inr (.inl hk))
          · have := hs.put i (fun m => { m with av := av, attrs := setL m.attrs x }) (fun o => { o with attrs := setL o.attrs x }) (fun _ => ⟨rfl, rfl, rfl, rfl, rfl⟩) (fun _ => ⟨rfl, rfl, rfl, rfl, rfl⟩)
              (fun n o sm => ⟨sm.kind, sm.space, sm.name, sm.data, sm.system, sm.inner, by rw [sm.attrs], sm.up⟩)
            rw [upd_of hn] at this
            have e2 : setL n.attrs x = n.attrs ++ [x] := by rw [setL, if_pos hj]
            simp only [e2] at this
            simpa using this
        · rw [if_pos ⟨hj, hmany⟩, if_neg (by decide)]
          exact (setAttr_many h i n hn hk x hl hj hmany).mono fun e w' ⟨h1, h2⟩ => ⟨h1, ns, ha'.upd h2, hs⟩
      · have hne : ¬ idxM (sameKey x.space x.name) n.attrs = -1 := by omega
        rw [if_neg (fun e => hne e.1), if_pos rfl]
        refine (setAttr_found h i n hn hk x hl j hj).mono fun e w' ⟨h1, h2, h3⟩ => ⟨h1, _, upd_of_modF hF h2 (h3.mono (fun k _ hk => ?_)) (foot_set hn (fun k hk => .inl hk)), ?_⟩
        · exact .inr (.inr (.inr ⟨n, List.mem_of_getElem? hn, hk⟩))
        · have := hs.put i (fun m => { m with attrs := setL m.attrs x }) (fun o => { o with attrs := setL o.attrs x }) (fun _ => ⟨rfl, rfl, rfl, rfl, rfl⟩) (fun _ => ⟨rfl, rfl, rfl, rfl, rfl⟩)
            (fun n o sm => ⟨sm.kind, sm.space, sm.name, sm.data, sm.system, sm.inner, by rw [sm.attrs], sm.up⟩)
          rw [upd_of hn] at this
          have e2 : setL n.attrs x = setVal n.attrs j x.val := by rw [setL, if_neg hne, hj]; simp
          simp only [e2] at this
          simpa using this
  · have hE : setAttrE os k x = mayAttrM ns k := by
      rw [hme]
      unfold setAttrE
      cases hh : hasO os k with
      | false => simp
      | true =>
        rw [hme, hh, if_neg (by decide)] at hm0
        by_cases e : kindO os k = 1
        · rw [if_neg (by simpa using e)] at hm0; exact absurd rfl hm0
        · simp only [Bool.true_eq_false, if_false]; rw [if_pos e, if_pos e]
    unfold setAttrR
    rw [hE, if_neg hm0]
    exact (setAttr_may h k x hm0).mono fun e w' ⟨h1, h2⟩ => ⟨h1, ns, ha'.upd h2, hs⟩

theorem delAttr_sim (ha : ArS w base bA ns F) (hs : Sim ns os) (k space : Int) (name : ByteArray) :
    Calls Try.prog 45 #[.pointer (some ⟨bA, 0, none⟩), .int .i64 k, .int .i64 space, .string name] w fun e w' => e = .returned (.int .i64 (delAttrE os k space name)) ∧ USim F w w' base bA (delAttrR os k space name) := by
  have ha' := ha
  obtain ⟨bS, g, cap, h, hF⟩ := ha
  have hme := mayAttr_eq hs k
  by_cases hm0 : mayAttrM ns k = 0
  · rw [hm0] at hme
    have hh : hasO os k = true := by
      cases hh : hasO os k with
      | true => rfl
      | false => rw [hh] at hme; simp at hme
    have hk1 : kindO os k = 1 := by
      by_cases e : kindO os k = 1
      · exact e
      · rw [hh, if_neg (by decide), if_pos e] at hme; cases hme
    obtain ⟨i, o, rfl, ho⟩ := hasO_yes hh
    obtain ⟨n, hn, sm⟩ := hs.get ho
    rw [kindO_of ho] at hk1
    have hk : n.kind = 1 := by rw [sm.kind]; exact hk1
    have hat : attrsO os (i : Int) = n.attrs := by simp [attrsO, ho, sm.attrs]
    have hE : delAttrE os (i : Int) space name = if idxM (sameKey space name) n.attrs = -1 then 1 else 0 := by
      unfold delAttrE
      rw [if_neg (by rw [hh]; decide), if_neg (by rw [kindO_of ho]; simpa using hk1), hat]
    unfold delAttrR
    rw [hE]
    rcases idxM_or (sameKey space name) n.attrs with hj | ⟨j, hj⟩
    · rw [if_pos hj, if_neg (by decide)]
      exact (delAttr_none h i n hn hk space name hj).mono fun e w' ⟨h1, h2⟩ => ⟨h1, ns, ha'.upd h2, hs⟩
    · have hne : ¬ idxM (sameKey space name) n.attrs = -1 := by omega
      rw [if_neg hne, if_pos rfl]
      refine (delAttr_found h i n hn hk space name j hj).mono fun e w' ⟨h1, av, h2, h3, h4⟩ => ⟨h1, _, upd_of_modF hF h2 (h3.mono (fun k _ hk => ?_)) (foot_set hn h4), ?_⟩
      · rcases hk with hk | hk
        · exact .inr (.inr (.inr ⟨n, List.mem_of_getElem? hn, hk⟩))
        · exact .inr (.inr (.inl hk))
      · have := hs.put i (fun m => { m with av := av, attrs := m.attrs.eraseIdx (idxM (sameKey space name) m.attrs).toNat }) (fun o => { o with attrs := o.attrs.eraseIdx (idxM (sameKey space name) o.attrs).toNat }) (fun _ => ⟨rfl, rfl, rfl, rfl, rfl⟩) (fun _ => ⟨rfl, rfl, rfl, rfl, rfl⟩)
          (fun n o sm => ⟨sm.kind, sm.space, sm.name, sm.data, sm.system, sm.inner, by rw [sm.attrs], sm.up⟩)
        rw [upd_of hn] at this
        simp only [hj, Int.toNat_natCast] at this
        simpa using this
  · have hE : delAttrE os k space name = mayAttrM ns k := by
      rw [hme]
      unfold delAttrE
      cases hh : hasO os k with
      | false => simp
      | true =>
        rw [hme, hh, if_neg (by decide)] at hm0
        by_cases e : kindO os k = 1
        · rw [if_neg (by simpa using e)] at hm0; exact absurd rfl hm0
        · simp only [Bool.true_eq_false, if_false]; rw [if_pos e, if_pos e]
    unfold delAttrR
    rw [hE, if_neg hm0]
    exact (delAttr_may h k space name hm0).mono fun e w' ⟨h1, h2⟩ => ⟨h1, ns, ha'.upd (h2 ▸ Below.refl _ _), hs⟩

/-- What stands ahead of and behind a child. -/
def nbr (os : List OneM) (i : Nat) (o : OneM) : Int × Int :=
  match (if o.up = -1 then none else (os[o.up.toNat]?).map (·.kids)) with
  | none => (-1, -1)
  | some l => (lastI (l.takeWhile (· ≠ i)), headI ((l.dropWhile (· ≠ i)).tail))

theorem take_cut {A B : List Nat} {c : Nat} (h : c ∉ A) : (A ++ c :: B).takeWhile (· ≠ c) = A ∧ (A ++ c :: B).dropWhile (· ≠ c) = c :: B := by
  induction A with
  | nil => simp
  | cons a A ih =>
    have ha : a ≠ c := fun e => h (by simp [e])
    have := ih (fun e => h (by simp [e]))
    simp only [List.cons_append, List.takeWhile_cons, List.dropWhile_cons, ha, ne_eq, not_false_eq_true, decide_true, if_true]
    exact ⟨by rw [this.1], this.2⟩

/-- A node as it is told. -/
def tellN (os : List OneM) (i : Nat) (o : OneM) : NodeM :=
  { kind := o.kind, space := o.space, name := o.name, av := .slice none 0 0, data := o.data, system := o.system, parent := o.up, first := headI o.kids, last := lastI o.kids, prev := (nbr os i o).1, next := (nbr os i o).2, inner := o.inner, attrs := o.attrs }

theorem Sim.tell (hs : Sim ns os) {i : Nat} {n : NodeM} {o : OneM} (hn : ns[i]? = some n) (ho : os[i]? = some o) : n = { tellN os i o with av := n.av } := by
  have sm := hs.same i n o hn ho
  obtain ⟨e1, e2⟩ := hs.first_nil hn ho
  have hnb : n.prev = (nbr os i o).1 ∧ n.next = (nbr os i o).2 := by
    by_cases hu : o.up = -1
    · have := hs.loose i n hn (by rw [sm.up]; exact hu)
      unfold nbr
      rw [if_pos hu]
      exact this
    · obtain ⟨p, op, A, B, hup, hop, hk⟩ := hs.cut ho hu
      obtain ⟨n1, n2, _, _⟩ := hs.nbrs hn hop hk
      have hnd := (hs.kids p op hop).nodup
      rw [hk] at hnd
      have hA : i ∉ A := fun e => by
        rw [List.nodup_append] at hnd
        exact hnd.2.2 i e i (by simp) rfl
      obtain ⟨t1, t2⟩ := take_cut (B := B) hA
      unfold nbr
      rw [if_neg hu, hup, Int.toNat_natCast, hop, Option.map_some]
      simp only
      rw [hk, t1, t2]
      exact ⟨n1, n2⟩
  obtain ⟨a, b, c, d, e, f, g, h⟩ := sm
  cases n
  simp only [tellN] at *
  simp_all
end
end Go.Proofs.Ytlbkoafeedlfaaa
