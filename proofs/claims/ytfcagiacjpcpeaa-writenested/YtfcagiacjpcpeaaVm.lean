/-
  Elements in one another, plainly: the arena that WriteNested makes, and what is in it as text.
-/
import Derived.Test.YtfcagiacjpcpeaaVl
namespace Go.Proofs.Ytfcagiacjpcpeaa
open Go.RowKit Go.Lib

def nmB : List ByteArray := [⟨#[100, 105, 118]⟩, ⟨#[112]⟩, ⟨#[98]⟩, ⟨#[120]⟩]
structure NmOk (nm : ByteArray) : Prop where
  t : isT nm = false
  v : hasN voids nm = false
  p : plainM nm true = false
  z : nm.size ≤ 3
theorem nm_ok {nm : ByteArray} (h : nm ∈ nmB) : NmOk nm := by
  unfold nmB at h
  simp only [List.mem_cons, List.not_mem_nil, or_false] at h
  rcases h with rfl | rfl | rfl | rfl
  all_goals exact ⟨by decide +kernel, by decide +kernel, by decide +kernel, by decide⟩
theorem NmOk.long {nm : ByteArray} (h : NmOk nm) : longE nm [] = false := by
  unfold longE longS
  have := h.z
  simp
  omega

def chainN (ns : List ByteArray) (j : Nat) : OneM := { oneM (if j = 0 then 0 else 1) with name := if j = 0 then ⟨#[]⟩ else (ns[j - 1]?).getD ⟨#[]⟩, up := (j : Int) - 1, kids := if j < ns.length then [j + 1] else [] }
structure Chain (os : List OneM) (ns : List ByteArray) : Prop where
  len : os.length = ns.length + 1
  at' : ∀ j, j ≤ ns.length → os[j]? = some (chainN ns j)
theorem Chain.new : Chain [oneM 0] [] := ⟨rfl, fun j hj => by
  have e : j = 0 := by simpa using hj
  subst e
  rfl⟩

def desc : Nat → List Nat
  | 0 => [0]
  | n + 1 => (n + 1) :: desc n
theorem desc_le (n : Nat) : ∀ x ∈ desc n, x ≤ n := by
  induction n with
  | zero => intro x hx; simp [desc] at hx; omega
  | succ n ih => intro x hx; simp only [desc, List.mem_cons] at hx; rcases hx with rfl | hx; exact Nat.le_refl _; have := ih x hx; omega
theorem desc_path {f : Nat → Option Int} : ∀ (n : Nat), (∀ j, j ≤ n → f j = some ((j : Int) - 1)) → PathOf f (n : Int) (desc n) := by
  intro n
  induction n with
  | zero => intro h; exact ⟨rfl, -1, (h 0 (Nat.le_refl _)).trans (by simp), rfl⟩
  | succ n ih =>
    intro h
    refine ⟨rfl, (n : Int), ?_, ih (fun j hj => h j (by omega))⟩
    rw [h (n + 1) (Nat.le_refl _)]
    congr 1
    omega
theorem chain_link {os : List OneM} {ns : List ByteArray} (h : Chain os ns) (q : OneM) (hk0 : q.kind ≠ 0) (hk5 : q.kind ≠ 5) (hu : q.up = -1) : linkE (os ++ [q]) (ns.length : Int) (os.length : Int) (-1) = 0 := by
  have hp : (os ++ [q])[ns.length]? = some (chainN ns ns.length) := by rw [List.getElem?_append_left (by rw [h.len]; omega)]; exact h.at' _ (Nat.le_refl _)
  have hc : (os ++ [q])[os.length]? = some q := by simp
  have e1 := hasO_of hp
  have e2 := hasO_of hc
  have hab : aboveO (os ++ [q]) (ns.length : Int) (os.length : Int) = false := by
    rw [aboveO_of hp e2 (desc_path ns.length (fun j hj => by
      unfold upO
      rw [List.getElem?_append_left (by rw [h.len]; omega), h.at' j hj]
      show some (if ((j : Int) - 1) = -1 then (-1 : Int) else (j : Int) - 1) = some ((j : Int) - 1)
      by_cases e : ((j : Int) - 1) = -1
      · rw [if_pos e, e]
      · rw [if_neg e]))]
    unfold inPath
    rw [List.any_eq_false]
    intro x hx
    have := desc_le _ x hx
    have hl := h.len
    simp
    omega
  unfold linkE
  rw [e1, e2, kindO_of hp, kindO_of hc, upIO_of hc, hab]
  have hpk : parentM (chainN ns ns.length).kind = true := by
    show parentM (if ns.length = 0 then 0 else 1) = true
    split <;> rfl
  rw [hpk]
  simp [hk0, hk5, hu]
theorem chain_step {os : List OneM} {ns : List ByteArray} (h : Chain os ns) (nm : ByteArray) : Chain (linkR (os ++ [elemQ 0 nm []]) (ns.length : Int) (os.length : Int) (-1)) (ns ++ [nm]) := by
  unfold linkR
  rw [if_pos (chain_link h _ (by show (1 : Int) ≠ 0; decide) (by show (1 : Int) ≠ 5; decide) rfl)]
  refine ⟨by rw [linkO_len]; simp [h.len], fun j hj => ?_⟩
  rw [show ((ns.length : Int)).toNat = ns.length by omega, show ((os.length : Int)).toNat = os.length by omega, linkO_get]
  simp only [List.length_append, List.length_cons, List.length_nil] at hj
  by_cases e : j = ns.length + 1
  · subst e
    rw [← h.len]
    simp only [List.getElem?_concat_length, Option.map_some]
    congr 1
    have hl := h.len
    unfold chainN elemQ oneM insO
    simp [hl]
  · have hjl : j ≤ ns.length := by omega
    rw [List.getElem?_append_left (by rw [h.len]; omega), h.at' j hjl]
    simp only [Option.map_some]
    congr 1
    have hl := h.len
    unfold chainN oneM insO
    by_cases e2 : j = ns.length
    · subst e2
      simp only [hl, List.length_append, List.length_cons, List.length_nil]
      by_cases e4 : ns.length = 0
      · simp [e4]
      · rw [if_neg e4, if_neg e4, List.getElem?_append_left (by omega)]
        simp
        intro e5
        simp [e5]
    · have e3 : j < ns.length := by omega
      simp [hl, e2, e3]
      refine ⟨?_, by omega⟩
      by_cases e4 : j = 0
      · simp [e4]
      · rw [if_neg e4, if_neg e4, List.getElem?_append_left (by omega)]

/-- The chain with a text in the innermost. -/
structure ChainT (os : List OneM) (ns : List ByteArray) (s : ByteArray) : Prop where
  len : os.length = ns.length + 2
  at' : ∀ j, j < ns.length → os[j]? = some (chainN ns j)
  last : os[ns.length]? = some { chainN ns ns.length with kids := [ns.length + 1] }
  text : os[ns.length + 1]? = some { dataQ 2 s with up := (ns.length : Int) }
theorem chain_text {os : List OneM} {ns : List ByteArray} (h : Chain os ns) (s : ByteArray) : ChainT (linkR (os ++ [dataQ 2 s]) (ns.length : Int) (os.length : Int) (-1)) ns s := by
  have hl := h.len
  unfold linkR
  rw [if_pos (chain_link h _ (by show (2 : Int) ≠ 0; decide) (by show (2 : Int) ≠ 5; decide) rfl)]
  rw [show ((ns.length : Int)).toNat = ns.length by omega, show ((os.length : Int)).toNat = os.length by omega]
  refine ⟨by rw [linkO_len]; simp [h.len], fun j hj => ?_, ?_, ?_⟩
  · rw [linkO_get, List.getElem?_append_left (by omega), h.at' j (by omega)]
    simp only [Option.map_some]
    rw [if_neg (by omega), if_neg (by omega)]
  · rw [linkO_get, List.getElem?_append_left (by omega), h.at' _ (Nat.le_refl _)]
    simp only [Option.map_some]
    rw [if_neg (by omega), if_pos trivial, hl]
    congr 1
    unfold chainN insO
    simp
  · rw [linkO_get, ← hl]
    simp only [List.getElem?_concat_length, Option.map_some]
    rw [if_pos trivial, if_neg (by omega)]

def nestL (s : ByteArray) : List ByteArray → List UInt8
  | [] => escL false s.data.toList
  | n :: r => tagL n [] ++ (nestL s r ++ catL [endB, n, gtB])
theorem kids_in {os : List OneM} {o : OneM} (h : o.inner = -1) : kidsOf os o = o.kids := by unfold kidsOf; rw [if_pos h]

theorem ChainT.kid {os : List OneM} {ns : List ByteArray} {s : ByteArray} (h : ChainT os ns s) {j : Nat} (hj : j ≤ ns.length) : ∃ o, os[j]? = some o ∧ o.kids = [j + 1] ∧ o.inner = -1 ∧ o.space = 0 ∧ o.kind = (if j = 0 then 0 else 1) ∧ o.name = (if j = 0 then ⟨#[]⟩ else (ns[j - 1]?).getD ⟨#[]⟩) ∧ o.attrs = [] ∧ o.data = ⟨#[]⟩ := by
  by_cases e : j = ns.length
  · subst e
    exact ⟨_, h.last, rfl, rfl, rfl, rfl, rfl, rfl, rfl⟩
  · refine ⟨_, h.at' j (by omega), ?_, rfl, rfl, rfl, rfl, rfl, rfl⟩
    show (if j < ns.length then [j + 1] else []) = [j + 1]
    rw [if_pos (by omega)]

theorem nest_in {os : List OneM} {ns : List ByteArray} {s : ByteArray} (h : ChainT os ns s) (hn : ∀ x ∈ ns, NmOk x) : ∀ (f j : Nat), j ≤ ns.length → ns.length + 1 ≤ f + j → inL os true f j = nestL s (ns.drop j) := by
  intro f
  induction f with
  | zero => intro j hj hf; omega
  | succ f ih =>
    intro j hj hf
    obtain ⟨o, ho, hk, hi, hsp, hkd, hnm, _, _⟩ := h.kid hj
    have hno : ∀ x, x = o.name → j ≠ 0 → NmOk x := by
      intro x hx h0
      rw [hx, hnm, if_neg h0]
      have hl : j - 1 < ns.length := by omega
      rw [List.getElem?_eq_getElem hl]
      exact hn _ (List.getElem_mem hl)
    have hv : voidO o = false := by
      unfold voidO htmlM
      by_cases h0 : j = 0
      · rw [hkd, if_pos h0]; rfl
      · rw [(hno _ rfl h0).v]; simp
    have hp : plainO o true = false := by
      unfold plainO htmlM
      by_cases h0 : j = 0
      · rw [hkd, if_pos h0]; rfl
      · rw [(hno _ rfl h0).p]; simp
    rw [inL_at ho, hv, hp, kids_in hi, hk]
    simp only [List.flatMap_cons, List.flatMap_nil, List.append_nil]
    by_cases e : j = ns.length
    · subst e
      rw [List.drop_length, kidT_at h.text]
      rfl
    · have hj' : j + 1 ≤ ns.length := by omega
      obtain ⟨o', ho', _, _, hsp', hkd', hnm', hat', _⟩ := h.kid hj'
      have hl : j < ns.length := by omega
      have hnm2 : o'.name = ns[j] := by rw [hnm', if_neg (by omega)]; simp [hl]
      have hv' : voidO o' = false := by
        unfold voidO
        rw [hnm2, (hn _ (List.getElem_mem hl)).v]; simp
      have e3 : (if j + 1 = 0 then (0 : Int) else 1) = 1 := if_neg (by omega)
      rw [kidT_at ho']
      show nodeT (inL os true f (j + 1)) o' false = _
      unfold nodeT elemT
      rw [hkd', e3, if_pos rfl, hv', ih (j + 1) hj' (by omega), hat', hnm2, List.drop_eq_getElem_cons hl]
      rfl
theorem nest_cost {os : List OneM} {ns : List ByteArray} {s : ByteArray} (h : ChainT os ns s) (hn : ∀ x ∈ ns, NmOk x) (hs : s.size ≤ 10000) : ∀ (f j : Nat), costN os f j ≤ f * 70000 := by
  intro f
  induction f with
  | zero => intro j; simp [costN]
  | succ f ih =>
    intro j
    have hone : ∀ k, kidN os f k ≤ 70000 + f * 70000 := by
      intro k
      have hk := ih k
      rcases Nat.lt_or_ge k (ns.length + 2) with hkl | hkl
      · by_cases e : k = ns.length + 1
        · subst e
          rw [kidN_at h.text]
          have : costO ({ dataQ 2 s with up := (ns.length : Int) } : OneM) ≤ 70000 := by
            unfold costO dataQ oneM attrsN
            have : (⟨#[]⟩ : ByteArray).size = 0 := rfl
            simp only [this]
            simp
            omega
          omega
        · obtain ⟨o, ho, _, _, _, _, hnm, hat, hda⟩ := h.kid (show k ≤ ns.length by omega)
          rw [kidN_at ho]
          have : costO o ≤ 70000 := by
            unfold costO
            rw [hat, hda, hnm]
            have e0 : (⟨#[]⟩ : ByteArray).size = 0 := rfl
            have ez : (if k = 0 then (⟨#[]⟩ : ByteArray) else (ns[k - 1]?).getD ⟨#[]⟩).size ≤ 3 := by
              split
              · rw [e0]; omega
              · have hl : k - 1 < ns.length := by omega
                rw [List.getElem?_eq_getElem hl]
                exact (hn _ (List.getElem_mem hl)).z
            have ea : attrsN [] = 0 := rfl
            rw [ea, e0]
            omega
          omega
      · unfold kidN
        rw [List.getElem?_eq_none (by rw [h.len]; exact hkl)]
        exact Nat.zero_le _
    cases ho : os[j]? with
    | none => rw [costN, ho]; exact Nat.zero_le _
    | some o =>
      rw [costN_at ho]
      have hjl : j < ns.length + 2 := by rw [← h.len]; exact (List.getElem?_eq_some_iff.1 ho).1
      by_cases e : j = ns.length + 1
      · subst e
        rw [h.text] at ho
        cases ho
        have : kidsOf os ({ dataQ 2 s with up := (ns.length : Int) } : OneM) = [] := rfl
        rw [this]
        simp
      · obtain ⟨o', ho', hk, hi, _⟩ := h.kid (show j ≤ ns.length by omega)
        rw [ho] at ho'
        cases ho'
        rw [kids_in hi, hk]
        have := hone (j + 1)
        simp only [List.map_cons, List.map_nil, List.sum_cons, List.sum_nil]
        rw [Nat.add_mul]
        omega

def openL (ns : List ByteArray) : List UInt8 := ns.flatMap fun n => catL [⟨#[60]⟩, n, gtB]
def shutL : List ByteArray → List UInt8
  | [] => []
  | n :: r => shutL r ++ catL [endB, n, gtB]
theorem shut_last (ns : List ByteArray) (n : ByteArray) : shutL (ns ++ [n]) = catL [endB, n, gtB] ++ shutL ns := by
  induction ns with
  | nil => simp [shutL]
  | cons a ns ih => simp only [List.cons_append, shutL, ih, List.append_assoc]
theorem open_last (ns : List ByteArray) (n : ByteArray) : openL (ns ++ [n]) = openL ns ++ catL [⟨#[60]⟩, n, gtB] := by
  unfold openL; simp
theorem tag_cat (n : ByteArray) : tagL n [] = catL [⟨#[60]⟩, n, gtB] := by
  unfold tagL attrsL catL gtB; simp
theorem nest_eq (s : ByteArray) (ns : List ByteArray) : nestL s ns = openL ns ++ escL false s.data.toList ++ shutL ns := by
  induction ns with
  | nil => simp [nestL, openL, shutL]
  | cons n r ih =>
    have e : openL (n :: r) = catL [⟨#[60]⟩, n, gtB] ++ openL r := by unfold openL; simp
    rw [nestL, ih, shutL, e, tag_cat]
    simp only [List.append_assoc]
end Go.Proofs.Ytfcagiacjpcpeaa
