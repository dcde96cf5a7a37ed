/-
  Both arenas, made side by side; what their nodes are besides their links. Nodes that are made and put below others, plainly: what stays.
-/
import Derived.Test.YtmnmaenmoaehlaaGreatDoorSZbg
import Derived.Test.YtmnmaenmoaehlaaGreatDoorSZap
import Derived.Test.YtmnmaenmoaehlaaGreatDoorSZbr
import Derived.Test.YtmnmaenmoaehlaaGreatDoorSZbs
namespace Go.Proofs.YtmnmaenmoaehlaaGreatDoor
open Go.RowKit Go.Lib

/-- Both arenas in memory, none part of the other. -/
def P2 (w wx : World) (bA bR : Nat) (oa ob : List OneM) : Prop :=
  Below w.heap.size w wx ∧ ∃ ns F G, ArS wx w.heap.size bA ns F ∧ Sim ns oa ∧ RfS wx w.heap.size bR ob G ∧ (∃ n1, Sim n1 ob) ∧ ∀ k, F k → ¬ G k
section
variable {w wx w' : World} {bA bR : Nat} {oa ob : List OneM}
theorem P2.a (h : P2 w wx bA bR oa ob) : ∃ ns F, ArS wx w.heap.size bA ns F ∧ Sim ns oa ∧ ∀ w2 o2, USim F wx w2 w.heap.size bA o2 → P2 w w2 bA bR o2 ob := by
  obtain ⟨hb, ns, F, G, ha, hs, hr, hn, hd⟩ := h
  refine ⟨ns, F, ha, hs, fun w2 o2 hu => ?_⟩
  obtain ⟨ms, ⟨F', h1, h2, h3⟩, h4⟩ := hu
  refine ⟨hb.trans (h2.below hb.size (fun k hk => (ha.lt hk).1)), ms, F', G, h1, h4, hr.mod h2 (fun k hg hf => hd k hf hg), hn, fun k hk hg => ?_⟩
  rcases h3 k hk with h5 | h5
  · exact hd k h5 hg
  · have := (hr.lt hg).2; omega
theorem P2.r (h : P2 w wx bA bR oa ob) : ∃ G, RfS wx w.heap.size bR ob G ∧ ∀ w2 o2, (∃ n1, Sim n1 o2) → URf G wx w2 w.heap.size bR o2 → P2 w w2 bA bR oa o2 := by
  obtain ⟨hb, ns, F, G, ha, hs, hr, hn, hd⟩ := h
  refine ⟨G, hr, fun w2 o2 hn2 hu => ?_⟩
  obtain ⟨G', h1, h2, h3⟩ := hu
  refine ⟨hb.trans (h2.below hb.size (fun k hk => (hr.lt hk).1)), ns, F, G', ha.mod h2 (fun k hf hg => hd k hf hg), hs, h1, hn2, fun k hf hg => ?_⟩
  rcases h3 k hg with h5 | h5
  · exact hd k hf h5
  · have := (ha.lt hf).2; omega
theorem P2.more (h : P2 w wx bA bR oa ob) (hb2 : Below wx.heap.size wx w') : P2 w w' bA bR oa ob := by
  obtain ⟨hb, ns, F, G, ha, hs, hr, hn, hd⟩ := h
  exact ⟨hb.trans (hb2.mono hb.size), ns, F, G, ha.mod (Mod.of_below hb2) (fun _ _ e => e), hs, hr.below hb2, hn, hd⟩
theorem P2.simA (h : P2 w wx bA bR oa ob) : ∃ n1, Sim n1 oa := by obtain ⟨_, ns, _, _, _, hs, _⟩ := h; exact ⟨ns, hs⟩

theorem P2.elem (h : P2 w wx bA bR oa ob) (sp : Int) (nm : ByteArray) (a : Option Addr) (cap : Nat) (l : List AttrM) (hl : AttrsIn wx a l) (hn : l.length ≤ maxLen) :
    Calls Tryz.prog 12 #[.pointer (some ⟨bA, 0, none⟩), .int .i64 sp, .string nm, .slice a l.length cap] wx fun e w' => e = .returned (.tuple #[.int .i64 (elemO oa sp nm l).2.1, .int .i64 (elemO oa sp nm l).2.2]) ∧ P2 w w' bA bR (elemO oa sp nm l).1 ob := by
  obtain ⟨ns, F, ha, hs, hk⟩ := h.a
  exact (element_sim ha hs sp nm a cap l hl hn).mono fun e w' ⟨h1, h2⟩ => ⟨h1, hk _ _ h2⟩
theorem P2.text (h : P2 w wx bA bR oa ob) (s : ByteArray) : Calls Tryz.prog 16 #[.pointer (some ⟨bA, 0, none⟩), .string s] wx fun e w' => e = .returned (.tuple #[.int .i64 (dataO oa 2 s).2.1, .int .i64 (dataO oa 2 s).2.2]) ∧ P2 w w' bA bR (dataO oa 2 s).1 ob := by
  obtain ⟨ns, F, ha, hs, hk⟩ := h.a
  exact (text_sim ha hs s).mono fun e w' ⟨h1, h2⟩ => ⟨h1, hk _ _ h2⟩
theorem P2.comment (h : P2 w wx bA bR oa ob) (s : ByteArray) : Calls Tryz.prog 18 #[.pointer (some ⟨bA, 0, none⟩), .string s] wx fun e w' => e = .returned (.tuple #[.int .i64 (dataO oa 3 s).2.1, .int .i64 (dataO oa 3 s).2.2]) ∧ P2 w w' bA bR (dataO oa 3 s).1 ob := by
  obtain ⟨ns, F, ha, hs, hk⟩ := h.a
  exact (comment_sim ha hs s).mono fun e w' ⟨h1, h2⟩ => ⟨h1, hk _ _ h2⟩
theorem P2.link (h : P2 w wx bA bR oa ob) (p c b : Int) : Calls Tryz.prog 14 #[.pointer (some ⟨bA, 0, none⟩), .int .i64 p, .int .i64 c, .int .i64 b] wx fun e w' => e = .returned (.int .i64 (linkE oa p c b)) ∧ P2 w w' bA bR (linkR oa p c b) ob := by
  obtain ⟨ns, F, ha, hs, hk⟩ := h.a
  exact (link_sim ha hs p c b).mono fun e w' ⟨h1, h2⟩ => ⟨h1, hk _ _ h2⟩
theorem P2.relem {sp : Int} {nm : ByteArray} {a : Option Addr} {cap : Nat} {l : List AttrM} (h : P2 w wx bA bR (elemO ob sp nm l).1 ob) (hl : AttrsIn wx a l) (hn : l.length ≤ maxLen) :
    Calls Tryz.prog 13 #[.pointer (some ⟨bR, 0, none⟩), .int .i64 sp, .string nm, .slice a l.length cap] wx fun e w' => e = .returned (.tuple #[.int .i64 (elemO ob sp nm l).2.1, .int .i64 (elemO ob sp nm l).2.2]) ∧ P2 w w' bA bR (elemO ob sp nm l).1 (elemO ob sp nm l).1 := by
  have hsa := h.simA
  obtain ⟨G, hr, hk⟩ := h.r
  have key : Calls Tryz.prog 13 #[.pointer (some ⟨bR, 0, none⟩), .int .i64 sp, .string nm, .slice a l.length cap] wx fun e w' => e = .returned (.tuple #[.int .i64 (elemO ob sp nm l).2.1, .int .i64 (elemO ob sp nm l).2.2]) ∧ URf G wx w' w.heap.size bR (elemO ob sp nm l).1 := by
    by_cases h1 : sp < 0 ∨ 2 < sp
    · have e : elemO ob sp nm l = (ob, 0, 1) := by unfold elemO; rw [if_pos h1]
      rw [e]
      exact (refElement_space sp nm _ h1).mono fun e w' ⟨h1, h2⟩ => ⟨h1, hr.upd (h2 ▸ Below.refl _ _)⟩
    · by_cases h2 : 1024 < l.length ∨ longS nm = true
      · have hle : longE nm l = true := by
          unfold longE
          rcases h2 with h2 | h2
          · simp [h2]
          · simp [h2]
        have e : elemO ob sp nm l = (ob, 0, 2) := by unfold elemO; rw [if_neg h1, hle]; rfl
        rw [e]
        exact (refElement_many sp nm a cap l.length (by omega) hn h2).mono fun e w' ⟨h1, h2⟩ => ⟨h1, hr.upd (h2 ▸ Below.refl _ _)⟩
      · exact refElement_in hr sp nm a cap l hl (by omega) (by omega) (by cases hq : longS nm with | true => exact absurd (.inr hq) h2 | false => rfl)
  exact key.mono fun e w' ⟨h1, h2⟩ => ⟨h1, hk _ _ hsa h2⟩
theorem P2.rtext {s : ByteArray} (h : P2 w wx bA bR (dataO ob 2 s).1 ob) : Calls Tryz.prog 17 #[.pointer (some ⟨bR, 0, none⟩), .string s] wx fun e w' => e = .returned (.tuple #[.int .i64 (dataO ob 2 s).2.1, .int .i64 (dataO ob 2 s).2.2]) ∧ P2 w w' bA bR (dataO ob 2 s).1 (dataO ob 2 s).1 := by
  have hsa := h.simA
  obtain ⟨G, hr, hk⟩ := h.r
  exact (refText_sim hr s).mono fun e w' ⟨h1, h2⟩ => ⟨h1, hk _ _ hsa h2⟩
theorem P2.rcomment {s : ByteArray} (h : P2 w wx bA bR (dataO ob 3 s).1 ob) : Calls Tryz.prog 19 #[.pointer (some ⟨bR, 0, none⟩), .string s] wx fun e w' => e = .returned (.tuple #[.int .i64 (dataO ob 3 s).2.1, .int .i64 (dataO ob 3 s).2.2]) ∧ P2 w w' bA bR (dataO ob 3 s).1 (dataO ob 3 s).1 := by
  have hsa := h.simA
  obtain ⟨G, hr, hk⟩ := h.r
  exact (refComment_sim hr s).mono fun e w' ⟨h1, h2⟩ => ⟨h1, hk _ _ hsa h2⟩
theorem P2.rfragment (h : P2 w wx bA bR (fragO ob).1 ob) : Calls Tryz.prog 39 #[.pointer (some ⟨bR, 0, none⟩)] wx fun e w' => e = .returned (.tuple #[.int .i64 (fragO ob).2.1, .int .i64 (fragO ob).2.2]) ∧ P2 w w' bA bR (fragO ob).1 (fragO ob).1 := by
  have hsa := h.simA
  obtain ⟨G, hr, hk⟩ := h.r
  exact (refFragment_sim hr).mono fun e w' ⟨h1, h2⟩ => ⟨h1, hk _ _ hsa h2⟩
theorem P2.rlink {p c b : Int} (h : P2 w wx bA bR (linkR ob p c b) ob) : Calls Tryz.prog 15 #[.pointer (some ⟨bR, 0, none⟩), .int .i64 p, .int .i64 c, .int .i64 b] wx fun e w' => e = .returned (.int .i64 (linkE ob p c b)) ∧ P2 w w' bA bR (linkR ob p c b) (linkR ob p c b) := by
  have hsa := h.simA
  have hh := h
  obtain ⟨_, _, _, _, _, _, _, ⟨n1, hn1⟩, _⟩ := hh
  obtain ⟨G, hr, hk⟩ := h.r
  exact (refLink_sim hr hn1 p c b).mono fun e w' ⟨h1, h2⟩ => ⟨h1, hk _ _ hsa h2⟩
end
end Go.Proofs.YtmnmaenmoaehlaaGreatDoor

namespace Go.Proofs.YtmnmaenmoaehlaaGreatDoor
open Go.RowKit Go.Lib

def mkO (os : List OneM) (e : ElM) : List OneM × Int × Int :=
  if e.what = 0 then elemO os 0 e.text e.l else if e.what = 1 then dataO os 2 e.text else dataO os 3 e.text
def stepO (os : List OneM) (e : ElM) : List OneM := if (mkO os e).2.2 = 0 then linkR (mkO os e).1 e.up (mkO os e).2.1 (-1) else (mkO os e).1
def fixO (os : List OneM) (nm : ByteArray) (l : List AttrM) (up : Int) : List OneM := linkR (elemO os 0 nm l).1 up (elemO os 0 nm l).2.1 (-1)

theorem ext_add {os : List OneM} (h : Ext os) {q : OneM} (hq : OkO q) : Ext (os ++ [q]) := by
  intro i o hi
  by_cases e : i < os.length
  · rw [List.getElem?_append_left e] at hi; exact h i o hi
  · rw [List.getElem?_append_right (by omega)] at hi
    have := (List.getElem?_eq_some_iff.1 hi).1
    simp at this
    obtain rfl : i = os.length := by omega
    simp at hi
    rw [← hi]; exact hq
theorem ok_bare (k : Int) (h0 : 0 ≤ k) (h5 : k ≤ 5) (nm da sy : ByteArray) (hn : nm.size ≤ 1048576) (hd : da.size ≤ 1048576) : OkO { oneM k with name := nm, data := da, system := sy } :=
  ⟨h0, h5, ⟨hn, hd, fun x hx => by cases hx⟩, by simp [oneM], fun h => absurd rfl h⟩
theorem ext_addO {os : List OneM} (h : Ext os) {q : OneM} (hq : OkO q) : Ext (addO os q).1 := by
  unfold addO
  split
  · exact ext_add h hq
  · exact h
theorem short_of {s : ByteArray} (h : longS s = false) : s.size ≤ 1048576 := by
  unfold longS at h
  have := of_decide_eq_false h
  omega
theorem empty_size : (⟨#[]⟩ : ByteArray).size ≤ 1048576 := by decide
theorem ext_elem {os : List OneM} (h : Ext os) (sp : Int) (nm : ByteArray) (l : List AttrM) : Ext (elemO os sp nm l).1 := by
  unfold elemO
  split
  · exact h
  · cases hl : longE nm l with
    | true => exact h
    | false =>
      unfold longE at hl
      rw [Bool.or_eq_false_iff, Bool.or_eq_false_iff] at hl
      obtain ⟨⟨h1, h2⟩, h3⟩ := hl
      have hat : ∀ x ∈ l, x.name.size ≤ 1048576 ∧ x.val.size ≤ 1048576 := by
        intro x hx
        have h4 : x.long = false := by
          have := List.any_eq_false.1 h3 x hx
          simpa using this
        unfold AttrM.long at h4
        simp only [List.any_cons, List.any_nil, Bool.or_false, Bool.or_eq_false_iff] at h4
        exact ⟨short_of h4.2.1, short_of h4.2.2⟩
      have hfew : l.length ≤ 1024 := by have := of_decide_eq_false h2; omega
      have hok : ∀ inn, (inn ≠ -1 → isT nm = true) → OkO { elemQ sp nm l with inner := inn } := fun inn hi =>
        ⟨by show (0 : Int) ≤ 1; omega, by show (1 : Int) ≤ 5; omega, ⟨short_of h1, empty_size, hat⟩, hfew, hi⟩
      simp only [Bool.false_eq_true, if_false]
      split
      · rename_i ht
        split
        · rw [show os ++ [{ elemQ sp nm l with inner := (os.length : Int) + 1 }, { oneM 5 with host := (os.length : Int) }] = (os ++ [{ elemQ sp nm l with inner := (os.length : Int) + 1 }]) ++ [{ oneM 5 with host := (os.length : Int) }] by simp]
          exact ext_add (ext_add h (hok _ (fun _ => ht.2))) ⟨by show (0 : Int) ≤ 5; omega, by show (5 : Int) ≤ 5; omega, ⟨empty_size, empty_size, fun x hx => by cases hx⟩, by simp [oneM], fun h => absurd rfl h⟩
        · exact h
      · exact ext_addO h (hok (-1) (fun h => absurd rfl h))
theorem ext_data {os : List OneM} (h : Ext os) (k : Int) (h0 : 0 ≤ k) (h5 : k ≤ 5) (s : ByteArray) : Ext (dataO os k s).1 := by
  unfold dataO
  cases hl : longS s with
  | true => exact h
  | false => exact ext_addO h ⟨h0, h5, ⟨empty_size, short_of hl, fun x hx => by cases hx⟩, by simp [dataQ, oneM], fun h => absurd rfl h⟩
theorem ext_link {os : List OneM} (h : Ext os) (p c b : Int) : Ext (linkR os p c b) := by
  unfold linkR
  split
  · intro i o hi
    rw [linkO_get] at hi
    cases ho : os[i]? with
    | none => rw [ho] at hi; cases hi
    | some q =>
      rw [ho] at hi
      have hq := h i q ho
      simp only [Option.map_some, Option.some.injEq] at hi
      rw [← hi]
      exact ⟨hq.lo, hq.hi, ⟨hq.short.name, hq.short.data, hq.short.attrs⟩, hq.few, hq.tmpl⟩
  · exact h
theorem ext_mk {os : List OneM} (h : Ext os) (e : ElM) : Ext (mkO os e).1 := by
  unfold mkO
  split
  · exact ext_elem h _ _ _
  · split
    · exact ext_data h 2 (by omega) (by omega) _
    · exact ext_data h 3 (by omega) (by omega) _
theorem ext_step {os : List OneM} (h : Ext os) (e : ElM) : Ext (stepO os e) := by
  unfold stepO
  split
  · exact ext_link (ext_mk h e) _ _ _
  · exact ext_mk h e
theorem ext_new : Ext [oneM 0] := by
  intro i o hi
  have e : i = 0 := by have := (List.getElem?_eq_some_iff.1 hi).1; simpa using this
  subst e
  have : o = oneM 0 := by simpa using hi.symm
  rw [this]
  exact ⟨by decide, by decide, ⟨empty_size, empty_size, fun x hx => by cases hx⟩, by decide, fun h => absurd rfl h⟩
theorem addO_len (os : List OneM) (q : OneM) : (addO os q).1.length ≤ os.length + 1 := by
  unfold addO; split <;> simp
theorem elem_len (os : List OneM) (nm : ByteArray) (l : List AttrM) : (elemO os 0 nm l).1.length ≤ os.length + 2 := by
  have h1 := fun q => addO_len os q
  unfold elemO
  repeat' split
  all_goals first
    | (have := h1 (elemQ 0 nm l); omega)
    | (simp; done)
    | (simp; omega)
theorem data_len (os : List OneM) (k : Int) (s : ByteArray) : (dataO os k s).1.length ≤ os.length + 2 := by
  have h1 := addO_len os (dataQ k s)
  unfold dataO
  split
  · simp
  · omega
theorem mk_len (os : List OneM) (e : ElM) : (mkO os e).1.length ≤ os.length + 2 := by
  unfold mkO
  repeat' split
  · exact elem_len _ _ _
  · exact data_len _ _ _
  · exact data_len _ _ _
theorem linkR_len (os : List OneM) (p c b : Int) : (linkR os p c b).length = os.length := by
  unfold linkR; split
  · rw [linkO_len]
  · rfl
theorem step_len (os : List OneM) (e : ElM) : (stepO os e).length ≤ os.length + 2 := by
  have := mk_len os e
  unfold stepO
  split
  · rw [linkR_len]; exact this
  · exact this
theorem fix_len (os : List OneM) (nm : ByteArray) (l : List AttrM) (up : Int) : (fixO os nm l up).length ≤ os.length + 2 := by
  have := elem_len os nm l
  unfold fixO
  rw [linkR_len]; exact this
theorem ext_fix {os : List OneM} (h : Ext os) (nm : ByteArray) (l : List AttrM) (up : Int) : Ext (fixO os nm l up) := ext_link (ext_elem h _ _ _) _ _ _

theorem pg_add {os : List OneM} (h : PgO os) {q : OneM} (h0 : q.kind ≠ 0) (hk : q.kids = []) (ht : q.inner ≠ -1 → isT q.name = true) : PgO (os ++ [q]) := by
  have key : ∀ (i : Nat) o, (os ++ [q])[i]? = some o → os[i]? = some o ∨ o = q := by
    intro i o hi
    by_cases e : i < os.length
    · rw [List.getElem?_append_left e] at hi; exact .inl hi
    · rw [List.getElem?_append_right (by omega)] at hi
      have := (List.getElem?_eq_some_iff.1 hi).1
      simp at this
      obtain rfl : i = os.length := by omega
      simp at hi
      exact .inr hi.symm
  refine ⟨fun i o hi hh => ?_, fun i o hi hh => ?_, ?_, fun i o hi hh => ?_⟩
  · rcases key i o hi with h1 | rfl
    · exact h.leaf i o h1 hh
    · exact hk
  · rcases key i o hi with h1 | rfl
    · exact h.tmpl i o h1 hh
    · exact ht hh
  · obtain ⟨o, ho, h1, h2⟩ := h.top
    exact ⟨o, by rw [List.getElem?_append_left (List.getElem?_eq_some_iff.1 ho).1]; exact ho, h1, h2⟩
  · rcases key i o hi with h1 | rfl
    · exact h.only i o h1 hh
    · exact absurd hh h0
theorem pg_addO {os : List OneM} (h : PgO os) {q : OneM} (h0 : q.kind ≠ 0) (hk : q.kids = []) (ht : q.inner ≠ -1 → isT q.name = true) : PgO (addO os q).1 := by
  unfold addO
  split
  · exact pg_add h h0 hk ht
  · exact h
theorem pg_elem {os : List OneM} (h : PgO os) (nm : ByteArray) (l : List AttrM) : PgO (elemO os 0 nm l).1 := by
  unfold elemO
  split
  · exact h
  · split
    · exact h
    · split
      · rename_i ht
        split
        · rw [show os ++ [{ elemQ 0 nm l with inner := (os.length : Int) + 1 }, { oneM 5 with host := (os.length : Int) }] = (os ++ [{ elemQ 0 nm l with inner := (os.length : Int) + 1 }]) ++ [{ oneM 5 with host := (os.length : Int) }] by simp]
          exact pg_add (pg_add h (by show (1 : Int) ≠ 0; omega) rfl (fun _ => ht.2)) (by show (5 : Int) ≠ 0; omega) rfl (fun h => absurd rfl h)
        · exact h
      · exact pg_addO h (by show (1 : Int) ≠ 0; omega) rfl (fun h => absurd rfl h)
theorem pg_data {os : List OneM} (h : PgO os) (k : Int) (h0 : k ≠ 0) (s : ByteArray) : PgO (dataO os k s).1 := by
  unfold dataO
  split
  · exact h
  · exact pg_addO h h0 rfl (fun h => absurd rfl h)
theorem pg_link {os : List OneM} (h : PgO os) (p c b : Int) : PgO (linkR os p c b) := by
  unfold linkR
  split
  · rename_i he
    have hne : ∀ (i : Nat) o, os[i]? = some o → o.kind = 2 ∨ o.kind = 3 → i ≠ p.toNat := by
      rintro i o hi hh rfl
      unfold linkE at he
      split at he
      · cases he
      · rename_i h1
        split at he
        · cases he
        · rename_i h2
          have h3 : hasO os p = true := by
            cases hq : hasO os p with
            | true => rfl
            | false => rw [hq] at h1; exact absurd rfl h1
          obtain ⟨j, oj, rfl, hj⟩ := hasO_yes h3
          have e : oj = o := by have : os[(j : Int).toNat]? = some oj := hj; rw [hi] at this; cases this; rfl
          subst e
          apply h2
          left
          rw [kindO_of hj]
          rcases hh with hh | hh <;> rw [hh] <;> rfl
    have key : ∀ (i : Nat) o, (linkO os p.toNat c.toNat b)[i]? = some o → ∃ q, os[i]? = some q ∧ o.kind = q.kind ∧ o.inner = q.inner ∧ o.name = q.name ∧ o.attrs = q.attrs ∧ (i ≠ p.toNat → o.kids = q.kids) := by
      intro i o hi
      rw [linkO_get] at hi
      cases ho : os[i]? with
      | none => rw [ho] at hi; cases hi
      | some q =>
        rw [ho] at hi
        simp only [Option.map_some, Option.some.injEq] at hi
        rw [← hi]
        exact ⟨q, rfl, rfl, rfl, rfl, rfl, fun hn => if_neg hn⟩
    refine ⟨fun i o hi hh => ?_, fun i o hi hh => ?_, ?_, fun i o hi hh => ?_⟩
    · obtain ⟨q, h1, h2, h3, h4, h5, h6⟩ := key i o hi
      rw [h2] at hh
      rw [h6 (hne i q h1 hh)]
      exact h.leaf i q h1 hh
    · obtain ⟨q, h1, h2, h3, h4, h5, h6⟩ := key i o hi
      rw [h4]; rw [h3] at hh
      exact h.tmpl i q h1 hh
    · obtain ⟨o, ho, h1, h2⟩ := h.top
      refine ⟨{ o with up := if 0 = c.toNat then (p.toNat : Int) else o.up, kids := if 0 = p.toNat then insO o.kids b c.toNat else o.kids }, by rw [linkO_get, ho]; rfl, h1, h2⟩
    · obtain ⟨q, h1, h2, h3, h4, h5, h6⟩ := key i o hi
      rw [h2] at hh
      exact h.only i q h1 hh
  · exact h
theorem pg_step {os : List OneM} (h : PgO os) (e : ElM) : PgO (stepO os e) := by
  have hm : PgO (mkO os e).1 := by
    unfold mkO
    split
    · exact pg_elem h _ _
    · split
      · exact pg_data h 2 (by omega) _
      · exact pg_data h 3 (by omega) _
  unfold stepO
  split
  · exact pg_link hm _ _ _
  · exact hm
theorem pg_fix {os : List OneM} (h : PgO os) (nm : ByteArray) (l : List AttrM) (up : Int) : PgO (fixO os nm l up) := pg_link (pg_elem h _ _) _ _ _
theorem pg_new : PgO [oneM 0] := by
  have key : ∀ (i : Nat) o, [oneM 0][i]? = some o → i = 0 ∧ o = oneM 0 := by
    intro i o hi
    have e : i = 0 := by have := (List.getElem?_eq_some_iff.1 hi).1; simpa using this
    subst e
    exact ⟨rfl, by simpa using hi.symm⟩
  refine ⟨fun i o hi hh => ?_, fun i o hi hh => ?_, ⟨oneM 0, rfl, rfl, rfl⟩, fun i o hi hh => (key i o hi).1⟩
  · rw [(key i o hi).2]; rfl
  · rw [(key i o hi).2] at hh; exact absurd rfl hh
end Go.Proofs.YtmnmaenmoaehlaaGreatDoor
