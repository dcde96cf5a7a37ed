/-
  What the calls of package node that make or change a node do to an arena, told by its plain nodes.
-/
import Derived.Test.YtlbkoafeedlfaaaCFull
import Derived.Test.YtlbkoafeedlfaaaCFull2
import Derived.Test.YtlbkoafeedlfaaaCDel3
namespace Go.Proofs.Ytlbkoafeedlfaaa
open Go.RowKit

def USim (F : Nat → Prop) (w w' : World) (base bA : Nat) (os : List OneM) : Prop := ∃ ms, Upd F w w' base bA ms ∧ Sim ms os

def dataQ (kind : Int) (s : ByteArray) : OneM := { oneM kind with data := s }
def elemQ (space : Int) (name : ByteArray) (l : List AttrM) : OneM := { oneM 1 with space := space, name := name, attrs := l }
def docQ (n p s : ByteArray) : OneM := { oneM 4 with name := n, data := p, system := s }
/-- A node more, if there is room: the nodes, its number, the error. -/
def addO (os : List OneM) (q : OneM) : List OneM × Int × Int := if os.length + 1 ≤ 32768 then (os ++ [q], (os.length : Int), 0) else (os, 0, 9)
def dataO (os : List OneM) (kind : Int) (s : ByteArray) : List OneM × Int × Int := if longS s then (os, 0, 2) else addO os (dataQ kind s)
def docO (os : List OneM) (n p s : ByteArray) : List OneM × Int × Int := if longS n || longS p || longS s then (os, 0, 2) else addO os (docQ n p s)
def fragO (os : List OneM) : List OneM × Int × Int := addO os (oneM 5)
def elemO (os : List OneM) (space : Int) (name : ByteArray) (l : List AttrM) : List OneM × Int × Int :=
  if space < 0 ∨ 2 < space then (os, 0, 1)
  else if longE name l then (os, 0, 2)
  else if space = 0 ∧ isT name = true then
    (if os.length + 2 ≤ 32768 then (os ++ [{ elemQ space name l with inner := (os.length : Int) + 1 }, { oneM 5 with host := (os.length : Int) }], (os.length : Int), 0) else (os, 0, 9))
  else addO os (elemQ space name l)

section
variable {w : World} {base bA : Nat} {ns : List NodeM} {os : List OneM} {F : Nat → Prop}

theorem data_sim {K : Nat} (hs : Sim ns os) (kind : Int) (s : ByteArray) (hc : Calls Try.prog K #[.pointer (some ⟨bA, 0, none⟩), .string s] w fun e w' => e = .returned (.tuple #[.int .i64 (dataR ns kind s).2.1, .int .i64 (dataR ns kind s).2.2]) ∧ Upd F w w' base bA (dataR ns kind s).1) :
    Calls Try.prog K #[.pointer (some ⟨bA, 0, none⟩), .string s] w fun e w' => e = .returned (.tuple #[.int .i64 (dataO os kind s).2.1, .int .i64 (dataO os kind s).2.2]) ∧ USim F w w' base bA (dataO os kind s).1 := by
  refine hc.mono fun e w' ⟨h1, h2⟩ => ?_
  unfold dataR at h1 h2
  unfold dataO addO
  rw [← hs.len]
  by_cases hl : longS s = true
  · simp only [hl, if_true] at h1 h2 ⊢
    exact ⟨h1, ns, h2, hs⟩
  · simp only [hl] at h1 h2 ⊢
    by_cases hf : ns.length + 1 ≤ 32768
    · simp only [hf, if_true] at h1 h2 ⊢
      exact ⟨h1, _, h2, hs.add1 _ _ ⟨rfl, rfl, rfl, rfl, rfl, rfl, rfl, rfl⟩ ⟨rfl, rfl, rfl, rfl, rfl⟩ rfl rfl rfl⟩
    · simp only [hf, if_false] at h1 h2 ⊢
      exact ⟨h1, ns, h2, hs⟩

theorem text_sim (ha : ArS w base bA ns F) (hs : Sim ns os) (s : ByteArray) :
    Calls Try.prog 64 #[.pointer (some ⟨bA, 0, none⟩), .string s] w fun e w' => e = .returned (.tuple #[.int .i64 (dataO os 2 s).2.1, .int .i64 (dataO os 2 s).2.2]) ∧ USim F w w' base bA (dataO os 2 s).1 := data_sim hs 2 s (text_any ha s)
theorem comment_sim (ha : ArS w base bA ns F) (hs : Sim ns os) (s : ByteArray) :
    Calls Try.prog 67 #[.pointer (some ⟨bA, 0, none⟩), .string s] w fun e w' => e = .returned (.tuple #[.int .i64 (dataO os 3 s).2.1, .int .i64 (dataO os 3 s).2.2]) ∧ USim F w w' base bA (dataO os 3 s).1 := data_sim hs 3 s (comment_any ha s)

theorem fragment_sim (ha : ArS w base bA ns F) (hs : Sim ns os) :
    Calls Try.prog 71 #[.pointer (some ⟨bA, 0, none⟩)] w fun e w' => e = .returned (.tuple #[.int .i64 (fragO os).2.1, .int .i64 (fragO os).2.2]) ∧ USim F w w' base bA (fragO os).1 := by
  unfold fragO addO
  rw [← hs.len]
  by_cases hf : ns.length + 1 ≤ 32768
  · simp only [hf, if_true]
    exact (fragment_fits ha hf).mono fun e w' ⟨h1, h2⟩ => ⟨h1, _, h2, hs.add1 _ _ ⟨rfl, rfl, rfl, rfl, rfl, rfl, rfl, rfl⟩ ⟨rfl, rfl, rfl, rfl, rfl⟩ rfl rfl rfl⟩
  · simp only [hf, if_false]
    exact (fragment_full ha hf).mono fun e w' ⟨h1, h2⟩ => ⟨h1, ns, ha.upd h2, hs⟩

theorem doctype_sim (ha : ArS w base bA ns F) (hs : Sim ns os) (n p s : ByteArray) :
    Calls Try.prog 69 #[.pointer (some ⟨bA, 0, none⟩), .string n, .string p, .string s] w fun e w' => e = .returned (.tuple #[.int .i64 (docO os n p s).2.1, .int .i64 (docO os n p s).2.2]) ∧ USim F w w' base bA (docO os n p s).1 := by
  unfold docO addO
  rw [← hs.len]
  cases hl : (longS n || longS p || longS s) with
  | true =>
    simp only [if_true]
    exact (doctype_long ha n p s hl).mono fun e w' ⟨h1, h2⟩ => ⟨h1, ns, ha.upd h2, hs⟩
  | false =>
    by_cases hf : ns.length + 1 ≤ 32768
    · simp only [hf, if_true]
      exact (doctype_fits ha n p s hl hf).mono fun e w' ⟨h1, h2⟩ => ⟨h1, _, h2, hs.add1 _ _ ⟨rfl, rfl, rfl, rfl, rfl, rfl, rfl, rfl⟩ ⟨rfl, rfl, rfl, rfl, rfl⟩ rfl rfl rfl⟩
    · simp only [hf, if_false]
      exact (doctype_full ha n p s hl hf).mono fun e w' ⟨h1, h2⟩ => ⟨h1, ns, ha.upd h2, hs⟩

theorem element_sim (ha : ArS w base bA ns F) (hs : Sim ns os) (space : Int) (name : ByteArray) (a : Option Addr) (cap : Nat) (l : List AttrM) (hl : AttrsIn w a l) (hn : l.length ≤ maxLen) :
    Calls Try.prog 34 #[.pointer (some ⟨bA, 0, none⟩), .int .i64 space, .string name, .slice a l.length cap] w fun e w' => e = .returned (.tuple #[.int .i64 (elemO os space name l).2.1, .int .i64 (elemO os space name l).2.2]) ∧ USim F w w' base bA (elemO os space name l).1 := by
  unfold elemO addO
  rw [← hs.len]
  by_cases h1 : space < 0 ∨ 2 < space
  · simp only [h1, if_true]
    exact (element_space ha space name _ h1).mono fun e w' ⟨h1, h2⟩ => ⟨h1, ns, ha.upd (h2 ▸ Below.refl _ _), hs⟩
  · simp only [h1, if_false]
    have h1' : 0 ≤ space ∧ space ≤ 2 := by omega
    cases h2 : longE name l with
    | true =>
      simp only [if_true]
      exact (element_long ha space name a cap l hl hn h1' h2).mono fun e w' ⟨h1, h2⟩ => ⟨h1, ns, ha.upd h2, hs⟩
    | false =>
      by_cases h3 : space = 0 ∧ isT name = true
      · rw [if_neg (by decide), if_pos h3]
        obtain ⟨rfl, h3⟩ := h3
        by_cases hf : ns.length + 2 ≤ 32768
        · simp only [hf, if_true]
          refine (element_tmpl ha name a cap l hl h3 h2 hf).mono fun e w' ⟨h1, av, h2⟩ => ⟨h1, _, h2, ?_⟩
          have := hs.len
          exact hs.add2 _ _ _ _ ⟨rfl, rfl, rfl, rfl, rfl, by simp, rfl, rfl⟩ ⟨rfl, rfl, rfl, rfl, rfl, rfl, rfl, rfl⟩ ⟨rfl, rfl, rfl, rfl, rfl⟩ ⟨rfl, rfl, rfl, rfl, rfl⟩ rfl rfl (by simp [this]) rfl rfl (by simp [this]) rfl
        · simp only [hf, if_false]
          exact (element_full2 ha name a cap l hl h3 h2 hf).mono fun e w' ⟨h1, h2⟩ => ⟨h1, ns, ha.upd h2, hs⟩
      · rw [if_neg (by decide), if_neg h3]
        have hsp : space = 1 ∨ space = 2 ∨ (space = 0 ∧ isT name = false) := by
          by_cases e0 : space = 0
          · exact .inr (.inr ⟨e0, by simpa [e0] using h3⟩)
          · omega
        by_cases hf : ns.length + 1 ≤ 32768
        · simp only [hf, if_true]
          exact (element_plain ha space name a cap l hl hsp h2 hf).mono fun e w' ⟨h1, av, h2⟩ => ⟨h1, _, h2, hs.add1 _ _ ⟨rfl, rfl, rfl, rfl, rfl, rfl, rfl, rfl⟩ ⟨rfl, rfl, rfl, rfl, rfl⟩ rfl rfl rfl⟩
        · simp only [hf, if_false]
          exact (element_full1 ha space name a cap l hl hsp h2 hf).mono fun e w' ⟨h1, h2⟩ => ⟨h1, ns, ha.upd h2, hs⟩

def setDataE (os : List OneM) (k : Int) (s : ByteArray) : Int := if hasO os k = false then 6 else if kindO os k ≠ 2 ∧ kindO os k ≠ 3 then 10 else if longS s then 2 else 0
def setDataR (os : List OneM) (k : Int) (s : ByteArray) : List OneM := if setDataE os k s = 0 then os.modify k.toNat fun o => { o with data := s } else os

theorem setData_sim (ha : ArS w base bA ns F) (hs : Sim ns os) (k : Int) (s : ByteArray) :
    Calls Try.prog 41 #[.pointer (some ⟨bA, 0, none⟩), .int .i64 k, .string s] w fun e w' => e = .returned (.int .i64 (setDataE os k s)) ∧ USim F w w' base bA (setDataR os k s) := by
  have ha' := ha
  obtain ⟨bS, g, cap, h, hF⟩ := ha
  unfold setDataR setDataE
  cases hh : hasO os k with
  | false =>
    simp only [if_true]
    exact (setData_none h k s (by rw [hs.hasM]; exact hh)).mono fun e w' ⟨h1, h2⟩ => ⟨h1, ns, ha'.upd (h2 ▸ Below.refl _ _), by simpa using hs⟩
  | true =>
    obtain ⟨i, o, rfl, ho⟩ := hasO_yes hh
    obtain ⟨n, hn, sm⟩ := hs.get ho
    simp only [kindO_of ho, Bool.true_eq_false, if_false]
    by_cases hk : o.kind ≠ 2 ∧ o.kind ≠ 3
    · simp only [if_pos hk]
      exact (setData_kind h i n hn s (by rw [sm.kind]; exact hk.1) (by rw [sm.kind]; exact hk.2)).mono fun e w' ⟨h1, h2⟩ => ⟨h1, ns, ha'.upd (h2 ▸ Below.refl _ _), by simpa using hs⟩
    · simp only [if_neg hk]
      have hk' : n.kind = 2 ∨ n.kind = 3 := by rw [sm.kind]; omega
      cases hl : longS s with
      | true =>
        simp only [if_true]
        exact (setData_yes h i n hn s hk' hl).mono fun e w' ⟨h1, h2⟩ => ⟨h1, ns, ha'.upd h2, by simpa using hs⟩
      | false =>
        simp only [if_true, Bool.false_eq_true, if_false, Int.toNat_natCast]
        refine (setData_ok h i n hn s hk' hl).mono fun e w' ⟨h1, h2, h3⟩ => ⟨h1, _, upd_of_mod hF h2 h3 (fun k hk => foot_upd ns i (setDat s) (fun _ => rfl) k hk), ?_⟩
        exact hs.put i _ _ (fun _ => ⟨rfl, rfl, rfl, rfl, rfl⟩) (fun _ => ⟨rfl, rfl, rfl, rfl, rfl⟩) (fun n o sm => ⟨sm.kind, sm.space, sm.name, rfl, sm.system, sm.inner, sm.attrs, sm.up⟩)
end
end Go.Proofs.Ytlbkoafeedlfaaa
