/-
  Both arenas, made side by side; what their nodes are besides their links.
-/
import Derived.Test.YtfcagiacjpcpeaaXe
import Derived.Test.YtfcagiacjpcpeaaXg
import Derived.Test.YtfcagiacjpcpeaaXh
import Derived.Test.YtfcagiacjpcpeaaJC
namespace Go.Proofs.Ytfcagiacjpcpeaa
open Go.RowKit Go.Lib

/-- Both arenas in memory, none part of the other. -/
def P2 (w wx : World) (bA bR : Nat) (oa ob : List OneM) : Prop :=
  Below w.heap.size w wx ∧ ∃ ns F G, ArS wx w.heap.size bA ns F ∧ Sim ns oa ∧ RfS wx w.heap.size bR ob G ∧ (∃ n1, Sim n1 ob) ∧ ∀ k, F k → ¬ G k
section
variable {w wx w' : World} {bA bR : Nat} {oa ob : List OneM}
theorem P2.a (h : P2 w wx bA bR oa ob) : ∃ ns F, ArS wx w.heap.size bA ns F ∧ Sim ns oa ∧ ∀ w2 o2, USim F wx w2 w.heap.size bA o2 → P2 w w2 bA bR o2 ob := by
  obtain ⟨hb, ns, F, G, ha, hs, hr, hn, hd⟩ := h
  refine ⟨ns, F, ha, hs, fun w2 o2 hu => ?_⟩
  obtain ⟨ms, ⟨F', h1, h2, h3⟩, h4⟩ := hu
  refine ⟨hb.trans (h2.below hb.size (fun k hk => (ha.lt hk).1)), ms, F', G, h1, h4, hr.mod h2 (fun k hg hf => hd k hf hg), hn, fun k hk hg => ?_⟩
  rcases h3 k hk with h5 | h5
  · exact hd k h5 hg
  · have := (hr.lt hg).2; omega
theorem P2.r (h : P2 w wx bA bR oa ob) : ∃ G, RfS wx w.heap.size bR ob G ∧ ∀ w2 o2, (∃ n1, Sim n1 o2) → URf G wx w2 w.heap.size bR o2 → P2 w w2 bA bR oa o2 := by
  obtain ⟨hb, ns, F, G, ha, hs, hr, hn, hd⟩ := h
  refine ⟨G, hr, fun w2 o2 hn2 hu => ?_⟩
  obtain ⟨G', h1, h2, h3⟩ := hu
  refine ⟨hb.trans (h2.below hb.size (fun k hk => (hr.lt hk).1)), ns, F, G', ha.mod h2 (fun k hf hg => hd k hf hg), hs, h1, hn2, fun k hf hg => ?_⟩
  rcases h3 k hg with h5 | h5
  · exact hd k hf h5
  · have := (ha.lt hf).2; omega
theorem P2.more (h : P2 w wx bA bR oa ob) (hb2 : Below wx.heap.size wx w') : P2 w w' bA bR oa ob := by
  obtain ⟨hb, ns, F, G, ha, hs, hr, hn, hd⟩ := h
  exact ⟨hb.trans (hb2.mono hb.size), ns, F, G, ha.mod (Mod.of_below hb2) (fun _ _ e => e), hs, hr.below hb2, hn, hd⟩
theorem P2.simA (h : P2 w wx bA bR oa ob) : ∃ n1, Sim n1 oa := by obtain ⟨_, ns, _, _, _, hs, _⟩ := h; exact ⟨ns, hs⟩

theorem P2.elem (h : P2 w wx bA bR oa ob) (sp : Int) (nm : ByteArray) (a : Option Addr) (cap : Nat) (l : List AttrM) (hl : AttrsIn wx a l) (hn : l.length ≤ maxLen) :
    Calls Try.prog 21 #[.pointer (some ⟨bA, 0, none⟩), .int .i64 sp, .string nm, .slice a l.length cap] wx fun e w' => e = .returned (.tuple #[.int .i64 (elemO oa sp nm l).2.1, .int .i64 (elemO oa sp nm l).2.2]) ∧ P2 w w' bA bR (elemO oa sp nm l).1 ob := by
  obtain ⟨ns, F, ha, hs, hk⟩ := h.a
  exact (element_sim ha hs sp nm a cap l hl hn).mono fun e w' ⟨h1, h2⟩ => ⟨h1, hk _ _ h2⟩
theorem P2.text (h : P2 w wx bA bR oa ob) (s : ByteArray) : Calls Try.prog 23 #[.pointer (some ⟨bA, 0, none⟩), .string s] wx fun e w' => e = .returned (.tuple #[.int .i64 (dataO oa 2 s).2.1, .int .i64 (dataO oa 2 s).2.2]) ∧ P2 w w' bA bR (dataO oa 2 s).1 ob := by
  obtain ⟨ns, F, ha, hs, hk⟩ := h.a
  exact (text_sim ha hs s).mono fun e w' ⟨h1, h2⟩ => ⟨h1, hk _ _ h2⟩
theorem P2.comment (h : P2 w wx bA bR oa ob) (s : ByteArray) : Calls Try.prog 27 #[.pointer (some ⟨bA, 0, none⟩), .string s] wx fun e w' => e = .returned (.tuple #[.int .i64 (dataO oa 3 s).2.1, .int .i64 (dataO oa 3 s).2.2]) ∧ P2 w w' bA bR (dataO oa 3 s).1 ob := by
  obtain ⟨ns, F, ha, hs, hk⟩ := h.a
  exact (comment_sim ha hs s).mono fun e w' ⟨h1, h2⟩ => ⟨h1, hk _ _ h2⟩
theorem P2.doctype (h : P2 w wx bA bR oa ob) (n p s : ByteArray) : Calls Try.prog 29 #[.pointer (some ⟨bA, 0, none⟩), .string n, .string p, .string s] wx fun e w' => e = .returned (.tuple #[.int .i64 (docOs oa n p s).2.1, .int .i64 (docOs oa n p s).2.2]) ∧ P2 w w' bA bR (docOs oa n p s).1 ob := by
  obtain ⟨ns, F, ha, hs, hk⟩ := h.a
  exact (doctype_sim ha hs n p s).mono fun e w' ⟨h1, h2⟩ => ⟨h1, hk _ _ h2⟩
theorem P2.fragment (h : P2 w wx bA bR oa ob) : Calls Try.prog 31 #[.pointer (some ⟨bA, 0, none⟩)] wx fun e w' => e = .returned (.tuple #[.int .i64 (fragO oa).2.1, .int .i64 (fragO oa).2.2]) ∧ P2 w w' bA bR (fragO oa).1 ob := by
  obtain ⟨ns, F, ha, hs, hk⟩ := h.a
  exact (fragment_sim ha hs).mono fun e w' ⟨h1, h2⟩ => ⟨h1, hk _ _ h2⟩
theorem P2.link (h : P2 w wx bA bR oa ob) (p c b : Int) : Calls Try.prog 22 #[.pointer (some ⟨bA, 0, none⟩), .int .i64 p, .int .i64 c, .int .i64 b] wx fun e w' => e = .returned (.int .i64 (linkE oa p c b)) ∧ P2 w w' bA bR (linkR oa p c b) ob := by
  obtain ⟨ns, F, ha, hs, hk⟩ := h.a
  exact (link_sim ha hs p c b).mono fun e w' ⟨h1, h2⟩ => ⟨h1, hk _ _ h2⟩
theorem P2.relem {sp : Int} {nm : ByteArray} {a : Option Addr} {cap : Nat} {l : List AttrM} (h : P2 w wx bA bR (elemO ob sp nm l).1 ob) (hl : AttrsIn wx a l) (hn : l.length ≤ maxLen) :
    Calls Try.prog 25 #[.pointer (some ⟨bR, 0, none⟩), .int .i64 sp, .string nm, .slice a l.length cap] wx fun e w' => e = .returned (.tuple #[.int .i64 (elemO ob sp nm l).2.1, .int .i64 (elemO ob sp nm l).2.2]) ∧ P2 w w' bA bR (elemO ob sp nm l).1 (elemO ob sp nm l).1 := by
  have hsa := h.simA
  obtain ⟨G, hr, hk⟩ := h.r
  have key : Calls Try.prog 25 #[.pointer (some ⟨bR, 0, none⟩), .int .i64 sp, .string nm, .slice a l.length cap] wx fun e w' => e = .returned (.tuple #[.int .i64 (elemO ob sp nm l).2.1, .int .i64 (elemO ob sp nm l).2.2]) ∧ URf G wx w' w.heap.size bR (elemO ob sp nm l).1 := by
    by_cases h1 : sp < 0 ∨ 2 < sp
    · have e : elemO ob sp nm l = (ob, 0, 1) := by unfold elemO; rw [if_pos h1]
      rw [e]
      exact (refElement_space sp nm _ h1).mono fun e w' ⟨h1, h2⟩ => ⟨h1, hr.upd (h2 ▸ Below.refl _ _)⟩
    · by_cases h2 : 1024 < l.length ∨ longS nm = true
      · have hle : longE nm l = true := by
          unfold longE
          rcases h2 with h2 | h2
          · simp [h2]
          · simp [h2]
        have e : elemO ob sp nm l = (ob, 0, 2) := by unfold elemO; rw [if_neg h1, hle]; rfl
        rw [e]
        exact (refElement_many sp nm a cap l.length (by omega) hn h2).mono fun e w' ⟨h1, h2⟩ => ⟨h1, hr.upd (h2 ▸ Below.refl _ _)⟩
      · exact refElement_in hr sp nm a cap l hl (by omega) (by omega) (by cases hq : longS nm with | true => exact absurd (.inr hq) h2 | false => rfl)
  exact key.mono fun e w' ⟨h1, h2⟩ => ⟨h1, hk _ _ hsa h2⟩
theorem P2.rtext {s : ByteArray} (h : P2 w wx bA bR (dataO ob 2 s).1 ob) : Calls Try.prog 26 #[.pointer (some ⟨bR, 0, none⟩), .string s] wx fun e w' => e = .returned (.tuple #[.int .i64 (dataO ob 2 s).2.1, .int .i64 (dataO ob 2 s).2.2]) ∧ P2 w w' bA bR (dataO ob 2 s).1 (dataO ob 2 s).1 := by
  have hsa := h.simA
  obtain ⟨G, hr, hk⟩ := h.r
  exact (refText_sim hr s).mono fun e w' ⟨h1, h2⟩ => ⟨h1, hk _ _ hsa h2⟩
theorem P2.rcomment {s : ByteArray} (h : P2 w wx bA bR (dataO ob 3 s).1 ob) : Calls Try.prog 28 #[.pointer (some ⟨bR, 0, none⟩), .string s] wx fun e w' => e = .returned (.tuple #[.int .i64 (dataO ob 3 s).2.1, .int .i64 (dataO ob 3 s).2.2]) ∧ P2 w w' bA bR (dataO ob 3 s).1 (dataO ob 3 s).1 := by
  have hsa := h.simA
  obtain ⟨G, hr, hk⟩ := h.r
  exact (refComment_sim hr s).mono fun e w' ⟨h1, h2⟩ => ⟨h1, hk _ _ hsa h2⟩
theorem P2.rdoctype {n p s : ByteArray} (h : P2 w wx bA bR (docOs ob n p s).1 ob) : Calls Try.prog 30 #[.pointer (some ⟨bR, 0, none⟩), .string n, .string p, .string s] wx fun e w' => e = .returned (.tuple #[.int .i64 (docOs ob n p s).2.1, .int .i64 (docOs ob n p s).2.2]) ∧ P2 w w' bA bR (docOs ob n p s).1 (docOs ob n p s).1 := by
  have hsa := h.simA
  obtain ⟨G, hr, hk⟩ := h.r
  exact (refDoctype_sim hr n p s).mono fun e w' ⟨h1, h2⟩ => ⟨h1, hk _ _ hsa h2⟩
theorem P2.rfragment (h : P2 w wx bA bR (fragO ob).1 ob) : Calls Try.prog 32 #[.pointer (some ⟨bR, 0, none⟩)] wx fun e w' => e = .returned (.tuple #[.int .i64 (fragO ob).2.1, .int .i64 (fragO ob).2.2]) ∧ P2 w w' bA bR (fragO ob).1 (fragO ob).1 := by
  have hsa := h.simA
  obtain ⟨G, hr, hk⟩ := h.r
  exact (refFragment_sim hr).mono fun e w' ⟨h1, h2⟩ => ⟨h1, hk _ _ hsa h2⟩
theorem P2.rlink {p c b : Int} (h : P2 w wx bA bR (linkR ob p c b) ob) : Calls Try.prog 33 #[.pointer (some ⟨bR, 0, none⟩), .int .i64 p, .int .i64 c, .int .i64 b] wx fun e w' => e = .returned (.int .i64 (linkE ob p c b)) ∧ P2 w w' bA bR (linkR ob p c b) (linkR ob p c b) := by
  have hsa := h.simA
  have hh := h
  obtain ⟨_, _, _, _, _, _, _, ⟨n1, hn1⟩, _⟩ := hh
  obtain ⟨G, hr, hk⟩ := h.r
  exact (refLink_sim hr hn1 p c b).mono fun e w' ⟨h1, h2⟩ => ⟨h1, hk _ _ hsa h2⟩
end
end Go.Proofs.Ytfcagiacjpcpeaa

/-
  Nodes that are made and put below others, plainly: what stays.
-/
namespace Go.Proofs.Ytfcagiacjpcpeaa
open Go.RowKit Go.Lib

def mkO (os : List OneM) (e : ElM) : List OneM × Int × Int :=
  if e.what = 0 then elemO os e.n e.text e.l else if e.what = 1 then dataO os 2 e.text else if e.what = 2 then dataO os 3 e.text else if e.what = 3 then docOs os e.text ⟨#[]⟩ ⟨#[]⟩ else fragO os
def stepO (os : List OneM) (e : ElM) : List OneM := if (mkO os e).2.2 = 0 then linkR (mkO os e).1 e.up (mkO os e).2.1 (-1) else (mkO os e).1

theorem ext_add {os : List OneM} (h : Ext os) {q : OneM} (hq : OkO q) : Ext (os ++ [q]) := by
  intro i o hi
  by_cases e : i < os.length
  · rw [List.getElem?_append_left e] at hi; exact h i o hi
  · rw [List.getElem?_append_right (by omega)] at hi
    have := (List.getElem?_eq_some_iff.1 hi).1
    simp at this
    obtain rfl : i = os.length := by omega
    simp at hi
    rw [← hi]; exact hq
theorem ok_bare (k : Int) (h0 : 0 ≤ k) (h5 : k ≤ 5) (nm da sy : ByteArray) (hn : nm.size ≤ 1048576) (hd : da.size ≤ 1048576) : OkO { oneM k with name := nm, data := da, system := sy } :=
  ⟨h0, h5, ⟨hn, hd, fun x hx => by cases hx⟩, by simp [oneM], fun h => absurd rfl h⟩
theorem ext_addO {os : List OneM} (h : Ext os) {q : OneM} (hq : OkO q) : Ext (addO os q).1 := by
  unfold addO
  split
  · exact ext_add h hq
  · exact h
theorem short_of {s : ByteArray} (h : longS s = false) : s.size ≤ 1048576 := by
  unfold longS at h
  have := of_decide_eq_false h
  omega
theorem empty_size : (⟨#[]⟩ : ByteArray).size ≤ 1048576 := by decide
theorem ext_elem {os : List OneM} (h : Ext os) (sp : Int) (nm : ByteArray) (l : List AttrM) : Ext (elemO os sp nm l).1 := by
  unfold elemO
  split
  · exact h
  · cases hl : longE nm l with
    | true => exact h
    | false =>
      unfold longE at hl
      rw [Bool.or_eq_false_iff, Bool.or_eq_false_iff] at hl
      obtain ⟨⟨h1, h2⟩, h3⟩ := hl
      have hat : ∀ x ∈ l, x.name.size ≤ 1048576 ∧ x.val.size ≤ 1048576 := by
        intro x hx
        have h4 : x.long = false := by
          have := List.any_eq_false.1 h3 x hx
          simpa using this
        unfold AttrM.long at h4
        simp only [List.any_cons, List.any_nil, Bool.or_false, Bool.or_eq_false_iff] at h4
        exact ⟨short_of h4.2.1, short_of h4.2.2⟩
      have hfew : l.length ≤ 1024 := by have := of_decide_eq_false h2; omega
      have hok : ∀ inn, (inn ≠ -1 → isT nm = true) → OkO { elemQ sp nm l with inner := inn } := fun inn hi =>
        ⟨by show (0 : Int) ≤ 1; omega, by show (1 : Int) ≤ 5; omega, ⟨short_of h1, empty_size, hat⟩, hfew, hi⟩
      simp only [Bool.false_eq_true, if_false]
      split
      · rename_i ht
        split
        · rw [show os ++ [{ elemQ sp nm l with inner := (os.length : Int) + 1 }, { oneM 5 with host := (os.length : Int) }] = (os ++ [{ elemQ sp nm l with inner := (os.length : Int) + 1 }]) ++ [{ oneM 5 with host := (os.length : Int) }] by simp]
          exact ext_add (ext_add h (hok _ (fun _ => ht.2))) ⟨by show (0 : Int) ≤ 5; omega, by show (5 : Int) ≤ 5; omega, ⟨empty_size, empty_size, fun x hx => by cases hx⟩, by simp [oneM], fun h => absurd rfl h⟩
        · exact h
      · exact ext_addO h (hok (-1) (fun h => absurd rfl h))
theorem ext_data {os : List OneM} (h : Ext os) (k : Int) (h0 : 0 ≤ k) (h5 : k ≤ 5) (s : ByteArray) : Ext (dataO os k s).1 := by
  unfold dataO
  cases hl : longS s with
  | true => exact h
  | false => exact ext_addO h ⟨h0, h5, ⟨empty_size, short_of hl, fun x hx => by cases hx⟩, by simp [dataQ, oneM], fun h => absurd rfl h⟩
theorem ext_doc {os : List OneM} (h : Ext os) (n p s : ByteArray) : Ext (docOs os n p s).1 := by
  unfold docOs
  cases hl : (longS n || longS p || longS s) with
  | true => exact h
  | false =>
    rw [Bool.or_eq_false_iff, Bool.or_eq_false_iff] at hl
    exact ext_addO h ⟨by show (0 : Int) ≤ 4; omega, by show (4 : Int) ≤ 5; omega, ⟨short_of hl.1.1, short_of hl.1.2, fun x hx => by cases hx⟩, by simp [docQ, oneM], fun h => absurd rfl h⟩
theorem ext_frag {os : List OneM} (h : Ext os) : Ext (fragO os).1 := by
  unfold fragO
  exact ext_addO h ⟨by show (0 : Int) ≤ 5; omega, by show (5 : Int) ≤ 5; omega, ⟨empty_size, empty_size, fun x hx => by cases hx⟩, by simp [oneM], fun h => absurd rfl h⟩
theorem ext_link {os : List OneM} (h : Ext os) (p c b : Int) : Ext (linkR os p c b) := by
  unfold linkR
  split
  · intro i o hi
    rw [linkO_get] at hi
    cases ho : os[i]? with
    | none => rw [ho] at hi; cases hi
    | some q =>
      rw [ho] at hi
      have hq := h i q ho
      simp only [Option.map_some, Option.some.injEq] at hi
      rw [← hi]
      exact ⟨hq.lo, hq.hi, ⟨hq.short.name, hq.short.data, hq.short.attrs⟩, hq.few, hq.tmpl⟩
  · exact h
theorem ext_mk {os : List OneM} (h : Ext os) (e : ElM) : Ext (mkO os e).1 := by
  unfold mkO
  split
  · exact ext_elem h _ _ _
  · split
    · exact ext_data h 2 (by omega) (by omega) _
    · split
      · exact ext_data h 3 (by omega) (by omega) _
      · split
        · exact ext_doc h _ _ _
        · exact ext_frag h
theorem ext_step {os : List OneM} (h : Ext os) (e : ElM) : Ext (stepO os e) := by
  unfold stepO
  split
  · exact ext_link (ext_mk h e) _ _ _
  · exact ext_mk h e
theorem ext_new : Ext [oneM 0] := by
  intro i o hi
  have e : i = 0 := by have := (List.getElem?_eq_some_iff.1 hi).1; simpa using this
  subst e
  have : o = oneM 0 := by simpa using hi.symm
  rw [this]
  exact ⟨by decide, by decide, ⟨empty_size, empty_size, fun x hx => by cases hx⟩, by decide, fun h => absurd rfl h⟩
theorem addO_len (os : List OneM) (q : OneM) : (addO os q).1.length ≤ os.length + 1 := by
  unfold addO; split <;> simp
theorem mk_len (os : List OneM) (e : ElM) : (mkO os e).1.length ≤ os.length + 2 := by
  have h1 := fun q => addO_len os q
  unfold mkO elemO dataO docOs fragO
  repeat' split
  all_goals first
    | (have := h1 (elemQ e.n e.text e.l); omega)
    | (have := h1 (dataQ 2 e.text); omega)
    | (have := h1 (dataQ 3 e.text); omega)
    | (have := h1 (docQ e.text ⟨#[]⟩ ⟨#[]⟩); omega)
    | (have := h1 (oneM 5); omega)
    | (simp; done)
    | (simp; omega)
theorem linkR_len (os : List OneM) (p c b : Int) : (linkR os p c b).length = os.length := by
  unfold linkR; split
  · rw [linkO_len]
  · rfl
theorem step_len (os : List OneM) (e : ElM) : (stepO os e).length ≤ os.length + 2 := by
  have := mk_len os e
  unfold stepO
  split
  · rw [linkR_len]; exact this
  · exact this
end Go.Proofs.Ytfcagiacjpcpeaa

/-
  Both arenas, made side by side, with a block beside them.
-/
namespace Go.Proofs.Ytfcagiacjpcpeaa
open Go.RowKit Go.Lib

/-- Both arenas in memory, and a block beside them. -/
def K2 (w wx : World) (bA bR : Nat) (oa ob : List OneM) (bo : Nat) (O : Obj) : Prop :=
  Below w.heap.size w wx ∧ ∃ ns F G, ArS wx w.heap.size bA ns F ∧ Sim ns oa ∧ RfS wx w.heap.size bR ob G ∧ (∃ n1, Sim n1 ob) ∧ (∀ k, F k → ¬ G k) ∧ wx.heap[bo]? = some O ∧ ¬ F bo ∧ ¬ G bo
section
variable {w wx w' : World} {bA bR : Nat} {oa ob : List OneM} {bo : Nat} {O : Obj}
theorem K2.a (h : K2 w wx bA bR oa ob bo O) : ∃ ns F, ArS wx w.heap.size bA ns F ∧ Sim ns oa ∧ ∀ w2 o2, USim F wx w2 w.heap.size bA o2 → K2 w w2 bA bR o2 ob bo O := by
  obtain ⟨hb, ns, F, G, ha, hs, hr, hn, hd, hO, hOF, hOG⟩ := h
  refine ⟨ns, F, ha, hs, fun w2 o2 hu => ?_⟩
  obtain ⟨ms, ⟨F', h1, h2, h3⟩, h4⟩ := hu
  refine ⟨hb.trans (h2.below hb.size (fun k hk => (ha.lt hk).1)), ms, F', G, h1, h4, hr.mod h2 (fun k hg hf => hd k hf hg), hn, fun k hk hg => ?_, (h2.block bo (lt_of_block hO) hOF).trans hO, fun hk => ?_, hOG⟩
  · rcases h3 k hk with h5 | h5
    · exact hd k h5 hg
    · have := (hr.lt hg).2; omega
  · rcases h3 bo hk with h5 | h5
    · exact hOF h5
    · have := lt_of_block hO; omega
theorem K2.r (h : K2 w wx bA bR oa ob bo O) : ∃ G, RfS wx w.heap.size bR ob G ∧ ∀ w2 o2, (∃ n1, Sim n1 o2) → URf G wx w2 w.heap.size bR o2 → K2 w w2 bA bR oa o2 bo O := by
  obtain ⟨hb, ns, F, G, ha, hs, hr, hn, hd, hO, hOF, hOG⟩ := h
  refine ⟨G, hr, fun w2 o2 hn2 hu => ?_⟩
  obtain ⟨G', h1, h2, h3⟩ := hu
  refine ⟨hb.trans (h2.below hb.size (fun k hk => (hr.lt hk).1)), ns, F, G', ha.mod h2 (fun k hf hg => hd k hf hg), hs, h1, hn2, fun k hf hg => ?_, (h2.block bo (lt_of_block hO) hOG).trans hO, hOF, fun hk => ?_⟩
  · rcases h3 k hg with h5 | h5
    · exact hd k hf h5
    · have := (ha.lt hf).2; omega
  · rcases h3 bo hk with h5 | h5
    · exact hOG h5
    · have := lt_of_block hO; omega
theorem K2.more (h : K2 w wx bA bR oa ob bo O) (hb2 : Below wx.heap.size wx w') : K2 w w' bA bR oa ob bo O := by
  obtain ⟨hb, ns, F, G, ha, hs, hr, hn, hd, hO, hOF, hOG⟩ := h
  exact ⟨hb.trans (hb2.mono hb.size), ns, F, G, ha.mod (Mod.of_below hb2) (fun _ _ e => e), hs, hr.below hb2, hn, hd, (hb2.block _ (lt_of_block hO)).trans hO, hOF, hOG⟩
theorem K2.simA (h : K2 w wx bA bR oa ob bo O) : ∃ n1, Sim n1 oa := by obtain ⟨_, ns, _, _, _, hs, _⟩ := h; exact ⟨ns, hs⟩

theorem K2.elem (h : K2 w wx bA bR oa ob bo O) (sp : Int) (nm : ByteArray) (a : Option Addr) (cap : Nat) (l : List AttrM) (hl : AttrsIn wx a l) (hn : l.length ≤ maxLen) :
    Calls Try.prog 21 #[.pointer (some ⟨bA, 0, none⟩), .int .i64 sp, .string nm, .slice a l.length cap] wx fun e w' => e = .returned (.tuple #[.int .i64 (elemO oa sp nm l).2.1, .int .i64 (elemO oa sp nm l).2.2]) ∧ K2 w w' bA bR (elemO oa sp nm l).1 ob bo O := by
  obtain ⟨ns, F, ha, hs, hk⟩ := h.a
  exact (element_sim ha hs sp nm a cap l hl hn).mono fun e w' ⟨h1, h2⟩ => ⟨h1, hk _ _ h2⟩
theorem K2.text (h : K2 w wx bA bR oa ob bo O) (s : ByteArray) : Calls Try.prog 23 #[.pointer (some ⟨bA, 0, none⟩), .string s] wx fun e w' => e = .returned (.tuple #[.int .i64 (dataO oa 2 s).2.1, .int .i64 (dataO oa 2 s).2.2]) ∧ K2 w w' bA bR (dataO oa 2 s).1 ob bo O := by
  obtain ⟨ns, F, ha, hs, hk⟩ := h.a
  exact (text_sim ha hs s).mono fun e w' ⟨h1, h2⟩ => ⟨h1, hk _ _ h2⟩
theorem K2.comment (h : K2 w wx bA bR oa ob bo O) (s : ByteArray) : Calls Try.prog 27 #[.pointer (some ⟨bA, 0, none⟩), .string s] wx fun e w' => e = .returned (.tuple #[.int .i64 (dataO oa 3 s).2.1, .int .i64 (dataO oa 3 s).2.2]) ∧ K2 w w' bA bR (dataO oa 3 s).1 ob bo O := by
  obtain ⟨ns, F, ha, hs, hk⟩ := h.a
  exact (comment_sim ha hs s).mono fun e w' ⟨h1, h2⟩ => ⟨h1, hk _ _ h2⟩
theorem K2.doctype (h : K2 w wx bA bR oa ob bo O) (n p s : ByteArray) : Calls Try.prog 29 #[.pointer (some ⟨bA, 0, none⟩), .string n, .string p, .string s] wx fun e w' => e = .returned (.tuple #[.int .i64 (docOs oa n p s).2.1, .int .i64 (docOs oa n p s).2.2]) ∧ K2 w w' bA bR (docOs oa n p s).1 ob bo O := by
  obtain ⟨ns, F, ha, hs, hk⟩ := h.a
  exact (doctype_sim ha hs n p s).mono fun e w' ⟨h1, h2⟩ => ⟨h1, hk _ _ h2⟩
theorem K2.fragment (h : K2 w wx bA bR oa ob bo O) : Calls Try.prog 31 #[.pointer (some ⟨bA, 0, none⟩)] wx fun e w' => e = .returned (.tuple #[.int .i64 (fragO oa).2.1, .int .i64 (fragO oa).2.2]) ∧ K2 w w' bA bR (fragO oa).1 ob bo O := by
  obtain ⟨ns, F, ha, hs, hk⟩ := h.a
  exact (fragment_sim ha hs).mono fun e w' ⟨h1, h2⟩ => ⟨h1, hk _ _ h2⟩
theorem K2.link (h : K2 w wx bA bR oa ob bo O) (p c b : Int) : Calls Try.prog 22 #[.pointer (some ⟨bA, 0, none⟩), .int .i64 p, .int .i64 c, .int .i64 b] wx fun e w' => e = .returned (.int .i64 (linkE oa p c b)) ∧ K2 w w' bA bR (linkR oa p c b) ob bo O := by
  obtain ⟨ns, F, ha, hs, hk⟩ := h.a
  exact (link_sim ha hs p c b).mono fun e w' ⟨h1, h2⟩ => ⟨h1, hk _ _ h2⟩
theorem K2.relem {sp : Int} {nm : ByteArray} {a : Option Addr} {cap : Nat} {l : List AttrM} (h : K2 w wx bA bR (elemO ob sp nm l).1 ob bo O) (hl : AttrsIn wx a l) (hn : l.length ≤ maxLen) :
    Calls Try.prog 25 #[.pointer (some ⟨bR, 0, none⟩), .int .i64 sp, .string nm, .slice a l.length cap] wx fun e w' => e = .returned (.tuple #[.int .i64 (elemO ob sp nm l).2.1, .int .i64 (elemO ob sp nm l).2.2]) ∧ K2 w w' bA bR (elemO ob sp nm l).1 (elemO ob sp nm l).1 bo O := by
  have hsa := h.simA
  obtain ⟨G, hr, hk⟩ := h.r
  have key : Calls Try.prog 25 #[.pointer (some ⟨bR, 0, none⟩), .int .i64 sp, .string nm, .slice a l.length cap] wx fun e w' => e = .returned (.tuple #[.int .i64 (elemO ob sp nm l).2.1, .int .i64 (elemO ob sp nm l).2.2]) ∧ URf G wx w' w.heap.size bR (elemO ob sp nm l).1 := by
    by_cases h1 : sp < 0 ∨ 2 < sp
    · have e : elemO ob sp nm l = (ob, 0, 1) := by unfold elemO; rw [if_pos h1]
      rw [e]
      exact (refElement_space sp nm _ h1).mono fun e w' ⟨h1, h2⟩ => ⟨h1, hr.upd (h2 ▸ Below.refl _ _)⟩
    · by_cases h2 : 1024 < l.length ∨ longS nm = true
      · have hle : longE nm l = true := by
          unfold longE
          rcases h2 with h2 | h2
          · simp [h2]
          · simp [h2]
        have e : elemO ob sp nm l = (ob, 0, 2) := by unfold elemO; rw [if_neg h1, hle]; rfl
        rw [e]
        exact (refElement_many sp nm a cap l.length (by omega) hn h2).mono fun e w' ⟨h1, h2⟩ => ⟨h1, hr.upd (h2 ▸ Below.refl _ _)⟩
      · exact refElement_in hr sp nm a cap l hl (by omega) (by omega) (by cases hq : longS nm with | true => exact absurd (.inr hq) h2 | false => rfl)
  exact key.mono fun e w' ⟨h1, h2⟩ => ⟨h1, hk _ _ hsa h2⟩
theorem K2.rtext {s : ByteArray} (h : K2 w wx bA bR (dataO ob 2 s).1 ob bo O) : Calls Try.prog 26 #[.pointer (some ⟨bR, 0, none⟩), .string s] wx fun e w' => e = .returned (.tuple #[.int .i64 (dataO ob 2 s).2.1, .int .i64 (dataO ob 2 s).2.2]) ∧ K2 w w' bA bR (dataO ob 2 s).1 (dataO ob 2 s).1 bo O := by
  have hsa := h.simA
  obtain ⟨G, hr, hk⟩ := h.r
  exact (refText_sim hr s).mono fun e w' ⟨h1, h2⟩ => ⟨h1, hk _ _ hsa h2⟩
theorem K2.rcomment {s : ByteArray} (h : K2 w wx bA bR (dataO ob 3 s).1 ob bo O) : Calls Try.prog 28 #[.pointer (some ⟨bR, 0, none⟩), .string s] wx fun e w' => e = .returned (.tuple #[.int .i64 (dataO ob 3 s).2.1, .int .i64 (dataO ob 3 s).2.2]) ∧ K2 w w' bA bR (dataO ob 3 s).1 (dataO ob 3 s).1 bo O := by
  have hsa := h.simA
  obtain ⟨G, hr, hk⟩ := h.r
  exact (refComment_sim hr s).mono fun e w' ⟨h1, h2⟩ => ⟨h1, hk _ _ hsa h2⟩
theorem K2.rdoctype {n p s : ByteArray} (h : K2 w wx bA bR (docOs ob n p s).1 ob bo O) : Calls Try.prog 30 #[.pointer (some ⟨bR, 0, none⟩), .string n, .string p, .string s] wx fun e w' => e = .returned (.tuple #[.int .i64 (docOs ob n p s).2.1, .int .i64 (docOs ob n p s).2.2]) ∧ K2 w w' bA bR (docOs ob n p s).1 (docOs ob n p s).1 bo O := by
  have hsa := h.simA
  obtain ⟨G, hr, hk⟩ := h.r
  exact (refDoctype_sim hr n p s).mono fun e w' ⟨h1, h2⟩ => ⟨h1, hk _ _ hsa h2⟩
theorem K2.rfragment (h : K2 w wx bA bR (fragO ob).1 ob bo O) : Calls Try.prog 32 #[.pointer (some ⟨bR, 0, none⟩)] wx fun e w' => e = .returned (.tuple #[.int .i64 (fragO ob).2.1, .int .i64 (fragO ob).2.2]) ∧ K2 w w' bA bR (fragO ob).1 (fragO ob).1 bo O := by
  have hsa := h.simA
  obtain ⟨G, hr, hk⟩ := h.r
  exact (refFragment_sim hr).mono fun e w' ⟨h1, h2⟩ => ⟨h1, hk _ _ hsa h2⟩
theorem K2.rlink {p c b : Int} (h : K2 w wx bA bR (linkR ob p c b) ob bo O) : Calls Try.prog 33 #[.pointer (some ⟨bR, 0, none⟩), .int .i64 p, .int .i64 c, .int .i64 b] wx fun e w' => e = .returned (.int .i64 (linkE ob p c b)) ∧ K2 w w' bA bR (linkR ob p c b) (linkR ob p c b) bo O := by
  have hsa := h.simA
  have hh := h
  obtain ⟨_, _, _, _, _, _, _, ⟨n1, hn1⟩, _⟩ := hh
  obtain ⟨G, hr, hk⟩ := h.r
  exact (refLink_sim hr hn1 p c b).mono fun e w' ⟨h1, h2⟩ => ⟨h1, hk _ _ hsa h2⟩
end

theorem P2.beside {w wx : World} {bA bR : Nat} {oa ob : List OneM} (h : P2 w wx bA bR oa ob) (O : Obj) : K2 w (wx.alloc O) bA bR oa ob wx.heap.size O := by
  obtain ⟨hb0, ns0, F0, G0, ha0, hs0, hr0, hn0, hd0⟩ := h
  have hm : Below wx.heap.size wx (wx.alloc O) := below_new wx O
  refine ⟨hb0.trans (hm.mono hb0.size), ns0, F0, G0, ha0.mod (Mod.of_below hm) (fun _ _ e => e), hs0, hr0.below hm, hn0, hd0, heap_alloc_new wx O, fun hk => ?_, fun hk => ?_⟩
  · have := (ha0.lt hk).2; omega
  · have := (hr0.lt hk).2; omega
theorem K2.forget {w wx : World} {bA bR : Nat} {oa ob : List OneM} {bo : Nat} {O : Obj} (h : K2 w wx bA bR oa ob bo O) : P2 w wx bA bR oa ob := by
  obtain ⟨hb, ns, F, G, ha, hs, hr, hn, hd, _⟩ := h
  exact ⟨hb, ns, F, G, ha, hs, hr, hn, hd⟩
theorem K2.block {w wx : World} {bA bR : Nat} {oa ob : List OneM} {bo : Nat} {O : Obj} (h : K2 w wx bA bR oa ob bo O) : wx.heap[bo]? = some O := by
  obtain ⟨_, _, _, _, _, _, _, _, _, hO, _⟩ := h; exact hO
end Go.Proofs.Ytfcagiacjpcpeaa

