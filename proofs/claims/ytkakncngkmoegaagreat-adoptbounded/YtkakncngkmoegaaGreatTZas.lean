/-
   
-/
import Derived.Test.YtkakncngkmoegaaGreatTZar
import Derived.Test.YtkakncngkmoegaaGreatSZao
import Derived.Deep.RegionWith
namespace Go.Proofs.YtkakncngkmoegaaGreat
open Go.RowKit

/-- An act: an element of that name, below that node, put on the stack or not. -/
structure ActM where
  text : ByteArray
  up : Int
  opn : Bool
def stepW (s : List OneM × List Int) (c : ActM) : List OneM × List Int :=
  if (elemO s.1 0 c.text []).2.2 = 0 then
    (linkR (elemO s.1 0 c.text []).1 c.up (elemO s.1 0 c.text []).2.1 (-1),
      if c.opn then pushL (keysO (linkR (elemO s.1 0 c.text []).1 c.up (elemO s.1 0 c.text []).2.1 (-1))) s.2 (elemO s.1 0 c.text []).2.1 else s.2)
  else ((elemO s.1 0 c.text []).1, s.2)
def worldW (l : List ActM) : List OneM × List Int := l.foldl stepW ([oneM 0], [])
theorem worldW_next {l : List ActM} {i : Nat} {c : ActM} (h : l[i]? = some c) : worldW (l.take (i + 1)) = stepW (worldW (l.take i)) c := by
  obtain ⟨hlt, rfl⟩ := List.getElem?_eq_some_iff.1 h
  rw [List.take_succ_eq_append_getElem hlt, worldW, List.foldl_append]
  rfl

theorem enterE_ok {ks : List Key} {L : List Int} {id : Int} (h : enterE ks L id = 0) : (elOf ks id).isSome = true ∧ id ∉ L := by
  unfold enterE at h
  split at h
  · split at h
    · cases h
    · exact ⟨by assumption, by assumption⟩
  · cases h
theorem Good.pushed {ks : List Key} {L : List Int} (hg : Good ks L) (id : Int) : Good ks (pushL ks L id) := by
  unfold pushL
  split
  · rename_i h
    obtain ⟨h1, h2⟩ := enterE_ok h
    refine ⟨List.nodup_append.2 ⟨hg.nodup, by simp, fun a ha b hb e => ?_⟩, fun x hx => ?_⟩
    · simp at hb; subst hb; subst e; exact h2 ha
    · rcases List.mem_append.1 hx with h | h
      · exact hg.el x h
      · simp at h; subst h; exact h1
  · exact hg
theorem keyAt_grow {ks ms : List Key} {id : Int} {q : Key} (h : keyAt ks id = some q) : keyAt (ks ++ ms) id = some q := by
  obtain ⟨i, rfl, hi⟩ := keyAt_some h
  have := (List.getElem?_eq_some_iff.1 hi).1
  simp [keyAt, List.getElem?_append_left this, hi]
theorem elOf_grow {ks ms : List Key} {id : Int} (h : (elOf ks id).isSome = true) : (elOf (ks ++ ms) id).isSome = true := by
  cases hk : keyAt ks id with
  | none => rw [elOf_none hk] at h; cases h
  | some q =>
    rw [elOf_key hk] at h
    rw [elOf_key (keyAt_grow hk)]
    exact h
theorem Good.grow {ks ms : List Key} {L : List Int} (h : Good ks L) : Good (ks ++ ms) L := ⟨h.nodup, fun x hx => elOf_grow (h.el x hx)⟩

theorem keysO_link (os : List OneM) (p c b : Int) : keysO (linkR os p c b) = keysO os := by
  unfold linkR
  split
  · unfold keysO
    refine List.ext_getElem? fun i => ?_
    rw [List.getElem?_map, List.getElem?_map, linkO_get]
    cases os[i]? <;> rfl
  · rfl
theorem linkR_len (os : List OneM) (p c b : Int) : (linkR os p c b).length = os.length := by
  unfold linkR
  split
  · exact linkO_len _ _ _ _
  · rfl

theorem hasT_one (n : ByteArray) : hasT [tmplB] n = isT n := by
  have e : tmplB.toList = [116, 101, 109, 112, 108, 97, 116, 101] := by decide +kernel
  simp [hasT, isT, e]

/-- What a node of the world is. -/
structure OneI (o : OneM) : Prop where
  inner : o.inner ≠ -1 ↔ isOfO o [tmplB] = true
  kind : o.kind = 0 ∨ o.kind = 1 ∨ o.kind = 5
theorem OneI.same {o o' : OneM} (h : OneI o) (h1 : o'.inner = o.inner) (h2 : o'.kind = o.kind) (h3 : o'.space = o.space) (h4 : o'.name = o.name) : OneI o' := by
  refine ⟨?_, by rw [h2]; exact h.kind⟩
  have := h.inner
  unfold isOfO at this ⊢
  rw [h1, h2, h3, h4]
  exact this
theorem oneI_oneM (k : Int) (h : k = 0 ∨ k = 5) (hh : Int) : OneI { oneM k with host := hh } := by
  refine ⟨?_, by rcases h with h | h <;> simp [oneM, h]⟩
  rcases h with rfl | rfl <;> simp [oneM, isOfO]
theorem oneI_elem (nm : ByteArray) (h : isT nm = false) : OneI (elemQ 0 nm []) := by
  refine ⟨?_, by simp [elemQ, oneM]⟩
  simp [elemQ, oneM, isOfO, hasT_one, h]
theorem oneI_tmpl (nm : ByteArray) (h : isT nm = true) (n : Nat) : OneI { elemQ 0 nm [] with inner := (n : Int) + 1 } := by
  refine ⟨?_, by simp [elemQ, oneM]⟩
  simp [elemQ, oneM, isOfO, hasT_one, h]
  omega

structure WI (s : List OneM × List Int) (n : Nat) : Prop where
  good : Good (keysO s.1) s.2
  few : s.1.length ≤ 2 * n + 1
  one : ∀ o ∈ s.1, OneI o

theorem elemO_grow (os : List OneM) (nm : ByteArray) : ∃ ms, (elemO os 0 nm []).1 = os ++ ms ∧ ms.length ≤ 2 ∧ ∀ o ∈ ms, OneI o := by
  unfold elemO
  rw [if_neg (by omega)]
  split
  · exact ⟨[], by simp, by simp, fun o ho => by cases ho⟩
  · split
    · rename_i h
      split
      · refine ⟨_, rfl, by simp, fun o ho => ?_⟩
        simp only [List.mem_cons, List.not_mem_nil, or_false] at ho
        rcases ho with rfl | rfl
        · exact oneI_tmpl nm h.2 _
        · exact oneI_oneM 5 (.inr rfl) _
      · exact ⟨[], by simp, by simp, fun o ho => by cases ho⟩
    · rename_i h
      have hT : isT nm = false := by simpa using h
      unfold addO
      split
      · refine ⟨_, rfl, by simp, fun o ho => ?_⟩
        simp only [List.mem_cons, List.not_mem_nil, or_false] at ho
        subst ho
        exact oneI_elem nm hT
      · exact ⟨[], by simp, by simp, fun o ho => by cases ho⟩

theorem oneI_link {os : List OneM} (h : ∀ o ∈ os, OneI o) (p c b : Int) : ∀ o ∈ linkR os p c b, OneI o := by
  unfold linkR
  split
  · intro o ho
    obtain ⟨i, hi⟩ := List.getElem?_of_mem ho
    rw [linkO_get] at hi
    cases h0 : os[i]? with
    | none => rw [h0] at hi; cases hi
    | some o0 =>
      rw [h0] at hi
      cases hi
      exact (h o0 (List.mem_of_getElem? h0)).same rfl rfl rfl rfl
  · exact h

theorem WI.step {s : List OneM × List Int} {n : Nat} (h : WI s n) (c : ActM) : WI (stepW s c) (n + 1) := by
  obtain ⟨ms, e, hm, ho⟩ := elemO_grow s.1 c.text
  have hg : Good (keysO (elemO s.1 0 c.text []).1) s.2 := by
    rw [e]
    unfold keysO
    rw [List.map_append]
    exact h.good.grow
  have hf : (elemO s.1 0 c.text []).1.length ≤ 2 * (n + 1) + 1 := by
    rw [e, List.length_append]
    have := h.few
    omega
  have h1 : ∀ o ∈ (elemO s.1 0 c.text []).1, OneI o := by
    rw [e]
    intro o hx
    rcases List.mem_append.1 hx with hx | hx
    · exact h.one o hx
    · exact ho o hx
  unfold stepW
  split
  · refine ⟨?_, by rw [linkR_len]; exact hf, oneI_link h1 _ _ _⟩
    simp only
    rw [keysO_link]
    split
    · exact hg.pushed _
    · exact hg
  · exact ⟨hg, hf, h1⟩
theorem WI.start : WI ([oneM 0], []) 0 := by
  refine ⟨Good.nil _, by simp, fun o ho => ?_⟩
  simp only [List.mem_cons, List.not_mem_nil, or_false] at ho
  subst ho
  exact oneI_oneM 0 (.inl rfl) _
theorem WI.all (l : List ActM) : ∀ n, n ≤ l.length → WI (worldW (l.take n)) n := by
  intro n
  induction n with
  | zero => intro _; rw [List.take_zero]; exact WI.start
  | succ n ih =>
    intro hn
    obtain ⟨c, hc⟩ : ∃ c, l[n]? = some c := ⟨_, List.getElem?_eq_getElem (by omega)⟩
    rw [worldW_next hc]
    exact (ih (by omega)).step c
end Go.Proofs.YtkakncngkmoegaaGreat

namespace Go.Proofs.YtkakncngkmoegaaGreat
open Go.ChangeShapes Go.WideShapes Go.ChangeAt Go.RowKit

structure ActsIn (w : World) (a : Option Addr) (l : List ActM) : Prop where
  cells : ∀ (i : Nat) x, l[i]? = some x → ∃ b off, a = some ⟨b, off, none⟩ ∧ w.cell? ⟨b, off + i * 3, none⟩ = some (.string x.text) ∧ w.cell? ⟨b, off + i * 3 + 1, none⟩ = some (.int .i64 x.up) ∧ w.cell? ⟨b, off + i * 3 + 2, none⟩ = some (.bool x.opn)
theorem ActsIn.below {w w' : World} {a : Option Addr} {l : List ActM} (h : ActsIn w a l) (hb : Below w.heap.size w w') : ActsIn w' a l := by
  refine ⟨fun i x hi => ?_⟩
  obtain ⟨b, off, e, c0, c1, c2⟩ := h.cells i x hi
  have hlt : b < w.heap.size := World.block_lt_of_cell? w _ c0
  exact ⟨b, off, e, (hb.cell (p := ⟨b, off + i * 3, none⟩) hlt).trans c0, (hb.cell (p := ⟨b, off + i * 3 + 1, none⟩) hlt).trans c1, (hb.cell (p := ⟨b, off + i * 3 + 2, none⟩) hlt).trans c2⟩

section
variable {H : Type} {enc : TypeId × Value → H} {W : World} {spare : Nat → Bool} {held : Bool}

end
end Go.Proofs.YtkakncngkmoegaaGreat

namespace Go.Proofs.YtkakncngkmoegaaGreat
open Go.RowKit

theorem elemK_more (ks : List Key) (sp : Int) (nm : ByteArray) : ∃ t, (elemK ks sp nm).1 = ks ++ t := by
  unfold elemK addK
  split
  · exact ⟨[], by simp⟩
  · split
    · exact ⟨[], by simp⟩
    · split
      · split
        · exact ⟨_, rfl⟩
        · exact ⟨[], by simp⟩
      · split
        · exact ⟨_, rfl⟩
        · exact ⟨[], by simp⟩
theorem keysO_elem_more (os : List OneM) (sp : Int) (nm : ByteArray) : ∃ t, keysO (elemO os sp nm []).1 = keysO os ++ t := by
  obtain ⟨t, ht⟩ := elemK_more (os.map keyO) sp nm
  exact ⟨t, by unfold keysO; rw [(elemO_k os sp nm).1, ht]⟩
theorem keysO_link_more (os : List OneM) (p c b : Int) : ∃ t, keysO (linkR os p c b) = keysO os ++ t := ⟨[], by rw [keysO_link]; simp⟩
end Go.Proofs.YtkakncngkmoegaaGreat

namespace Go.Proofs.YtkakncngkmoegaaGreat
open Go.RowKit

end Go.Proofs.YtkakncngkmoegaaGreat
