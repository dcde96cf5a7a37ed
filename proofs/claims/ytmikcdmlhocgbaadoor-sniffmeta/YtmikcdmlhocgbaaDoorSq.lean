/-
  A map from texts to counts.
-/
import Derived.Test.YtmikcdmlhocgbaaDoorSn
import Derived.ChangeMaps4
namespace Go.Proofs.YtmikcdmlhocgbaaDoor
open Go.RowKit Go.Lib
open Go.MapKept

def Seen (w : World) (m : Nat) (f : List UInt8 → Nat) : Prop :=
  ∃ es clock, w.heap[m]? = some (.map es clock) ∧ (es.toList.map (·.key)).Nodup ∧ (∀ x ∈ es.toList, ∃ l : List UInt8, x.key = .string ⟨l.toArray⟩ ∧ x.val = .int .i64 (f l) ∧ 0 < f l) ∧ (∀ l, 0 < f l → ∃ x ∈ es.toList, x.key = .string ⟨l.toArray⟩)
def bump (f : List UInt8 → Nat) (n : List UInt8) : List UInt8 → Nat := fun l => if l = n then f n + 1 else f l

section
variable {w : World} {m : Nat} {f : List UInt8 → Nat}
theorem str_inj {a b : List UInt8} (h : (.string ⟨a.toArray⟩ : Value) = .string ⟨b.toArray⟩) : a = b := by
  injection h with h
  injection h with h
  simpa using h
theorem Seen.isKey {es : Array MapEntry} (h : ∀ x ∈ es.toList, ∃ l : List UInt8, x.key = .string ⟨l.toArray⟩ ∧ x.val = .int .i64 (f l) ∧ 0 < f l) : ∀ x ∈ es.toList, IsKey .string x.key := by
  intro x hx
  obtain ⟨l, h1, _⟩ := h x hx
  rw [h1]
  trivial
theorem Seen.look (h : Seen w m f) (n : List UInt8) : (Instr.lookup 80 (.map (some m)) (.string ⟨n.toArray⟩) false).run Tryd.prog w = .ok (.int .i64 (f n)) w := by
  obtain ⟨es, clock, hb, hnd, hes, hall⟩ := h
  have hkey : IsKey .string (.string ⟨n.toArray⟩) := trivial
  rcases findNow_spec hkey es.toList 0 (Seen.isKey hes) with ⟨h1, h2⟩ | ⟨j, e0, h1, h2, h3⟩
  · have h0 : f n = 0 := by
      rcases Nat.eq_zero_or_pos (f n) with h | h
      · exact h
      · obtain ⟨x, hx, hk⟩ := hall n h
        exact absurd hk (h2 x hx)
    rw [h0]
    simp [Instr.lookup, run_underlying Tryd.underlying80, MapKept.run_getObj_map hb, run_checkKey Tryd.underlying9 hkey, run_findKey Tryd.underlying9 h1, Result.andThen]
  · obtain ⟨l, q1, q2, q3⟩ := hes e0 (List.mem_of_getElem? h2)
    have : l = n := str_inj (q1.symm.trans h3)
    subst this
    rw [q2] at h1
    simp [Instr.lookup, run_underlying Tryd.underlying80, MapKept.run_getObj_map hb, run_checkKey Tryd.underlying9 hkey, run_findKey Tryd.underlying9 h1, Result.andThen]
theorem Seen.put (h : Seen w m f) (n : List UInt8) : ∃ o, (Instr.mapUpdate 80 (.map (some m)) (.string ⟨n.toArray⟩) (.int .i64 ((f n : Int) + 1))).run Tryd.prog w = .ok () (Go.ChangeMaps.setBlock w m o) ∧ Seen (Go.ChangeMaps.setBlock w m o) m (bump f n) := by
  obtain ⟨es, clock, hb, hnd, hes, hall⟩ := h
  have hkey : IsKey .string (.string ⟨n.toArray⟩) := trivial
  rcases findNow_spec hkey es.toList 0 (Seen.isKey hes) with ⟨h1, h2⟩ | ⟨j, e0, h1, h2, h3⟩
  · have h0 : f n = 0 := by
      rcases Nat.eq_zero_or_pos (f n) with h | h
      · exact h
      · obtain ⟨x, hx, hk⟩ := hall n h
        exact absurd hk (h2 x hx)
    refine ⟨.map (es.push ⟨.string ⟨n.toArray⟩, .int .i64 ((f n : Int) + 1), clock⟩) (clock + 1), ?_, ⟨_, _, (heap_set hb).1, ?_, ?_, ?_⟩⟩
    · simp [Instr.mapUpdate, run_underlying Tryd.underlying80, MapKept.run_getObj_map hb, run_checkKey Tryd.underlying9 hkey, run_findKey Tryd.underlying9 h1, MapKept.run_setObj_map _ hb, Result.andThen, Go.ChangeMaps.setBlock]
    · simp only [Array.toList_push, List.map_append, List.map_cons, List.map_nil]
      refine List.nodup_append.2 ⟨hnd, by simp, ?_⟩
      intro a ha b hb
      simp only [List.mem_singleton] at hb
      subst hb
      obtain ⟨x, hx, rfl⟩ := List.mem_map.1 ha
      exact h2 x hx
    · intro x hx
      simp only [Array.toList_push, List.mem_append, List.mem_singleton] at hx
      rcases hx with hx | rfl
      · obtain ⟨l, q1, q2, q3⟩ := hes x hx
        have hne : l ≠ n := fun e => h2 x hx (by rw [q1, e])
        exact ⟨l, q1, by unfold bump; rw [if_neg hne]; exact q2, by unfold bump; rw [if_neg hne]; exact q3⟩
      · exact ⟨n, rfl, by unfold bump; rw [if_pos rfl]; simp, by unfold bump; rw [if_pos rfl]; omega⟩
    · intro l hl
      simp only [Array.toList_push, List.mem_append, List.mem_singleton]
      by_cases e : l = n
      · subst e
        exact ⟨_, .inr rfl, rfl⟩
      · unfold bump at hl
        rw [if_neg e] at hl
        obtain ⟨x, hx, hk⟩ := hall l hl
        exact ⟨x, .inl hx, hk⟩
  · have hj : es[j]? = some e0 := by simpa using h2
    have hjl : j < es.toList.length := (List.getElem?_eq_some_iff.1 h2).1
    obtain ⟨l0, q1, q2, q3⟩ := hes e0 (List.mem_of_getElem? h2)
    have hl0 : l0 = n := str_inj (q1.symm.trans h3)
    subst hl0
    have hkeyf : ∀ e', es[j]? = some e' → ({ e' with key := .string ⟨l0.toArray⟩, val := .int .i64 ((f l0 : Int) + 1) } : MapEntry).key = e'.key := fun e' he' => by rw [hj] at he'; cases he'; exact h3.symm
    have hkeys : (es.modify j (fun e' => { e' with key := .string ⟨l0.toArray⟩, val := .int .i64 ((f l0 : Int) + 1) })).toList.map (·.key) = es.toList.map (·.key) := by
      apply List.ext_getElem?
      intro i
      simp only [List.getElem?_map, Array.getElem?_toList, Array.getElem?_modify]
      by_cases hij : j = i
      · subst hij
        simp [hj, h3]
      · simp [hij]
    refine ⟨.map (es.modify j (fun e' => { e' with key := .string ⟨l0.toArray⟩, val := .int .i64 ((f l0 : Int) + 1) })) clock, ?_, ⟨_, _, (heap_set hb).1, ?_, ?_, ?_⟩⟩
    · simp [Instr.mapUpdate, run_underlying Tryd.underlying80, MapKept.run_getObj_map hb, run_checkKey Tryd.underlying9 hkey, run_findKey Tryd.underlying9 h1, hj, h3, run_keyThatStays hkey, MapKept.run_setObj_map _ hb, Result.andThen, Go.ChangeMaps.setBlock]
    · rw [hkeys]
      exact hnd
    · intro x hx
      obtain ⟨i, hi, hxi⟩ := List.mem_iff_getElem.1 hx
      have hg : (es.modify j (fun e' => { e' with key := .string ⟨l0.toArray⟩, val := .int .i64 ((f l0 : Int) + 1) })).toList[i]? = some x := by rw [List.getElem?_eq_getElem hi, hxi]
      simp only [Array.getElem?_toList, Array.getElem?_modify] at hg
      by_cases hij : j = i
      · subst hij
        rw [if_pos rfl, hj] at hg
        simp at hg
        subst hg
        exact ⟨l0, rfl, by unfold bump; rw [if_pos rfl]; simp, by unfold bump; rw [if_pos rfl]; omega⟩
      · rw [if_neg hij] at hg
        have hmem : x ∈ es.toList := List.mem_of_getElem? (i := i) (by simpa using hg)
        obtain ⟨l, p1, p2, p3⟩ := hes x hmem
        have hne : l ≠ l0 := by
          rintro rfl
          have hi' : i < (es.toList.map (·.key)).length := by
            have := (Array.getElem?_eq_some_iff.1 hg).1
            simpa using this
          have hj' : j < (es.toList.map (·.key)).length := by simpa using hjl
          have e1 : (es.toList.map (·.key))[i]? = some (.string ⟨l.toArray⟩) := by simp [hg, p1]
          have e2 : (es.toList.map (·.key))[j]? = some (.string ⟨l.toArray⟩) := by simp [hj, h3]
          rw [List.getElem?_eq_getElem hi'] at e1
          rw [List.getElem?_eq_getElem hj'] at e2
          have hp := List.pairwise_iff_getElem.1 hnd
          have ee := (Option.some.inj e2).trans (Option.some.inj e1).symm
          rcases Nat.lt_or_gt_of_ne hij with hlt | hlt
          · exact hp j i hj' hi' hlt ee
          · exact hp i j hi' hj' hlt ee.symm
        exact ⟨l, p1, by unfold bump; rw [if_neg hne]; exact p2, by unfold bump; rw [if_neg hne]; exact p3⟩
    · intro l hl
      have hk : (.string ⟨l.toArray⟩ : Value) ∈ es.toList.map (·.key) := by
        by_cases e : l = l0
        · subst e
          exact List.mem_map.2 ⟨e0, List.mem_of_getElem? h2, h3⟩
        · unfold bump at hl
          rw [if_neg e] at hl
          obtain ⟨x, hx, hk⟩ := hall l hl
          exact List.mem_map.2 ⟨x, hx, hk⟩
      rw [← hkeys] at hk
      obtain ⟨x, hx, hxk⟩ := List.mem_map.1 hk
      exact ⟨x, hx, hxk⟩
end
end Go.Proofs.YtmikcdmlhocgbaaDoor
