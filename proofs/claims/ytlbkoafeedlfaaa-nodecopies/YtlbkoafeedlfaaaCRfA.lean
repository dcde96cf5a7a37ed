/-
  The document's own arena: a child is put in, a child is taken out.
-/
import Derived.Test.YtlbkoafeedlfaaaCRf8
namespace Go.Proofs.Ytlbkoafeedlfaaa
open Go.RowKit

section
variable {w w' : World} {base bR g cap : Nat} {rs : List OneR}

/-- One node told anew: what becomes of the blocks. -/
theorem urf_set {w0 : World} {G : Nat → Prop} {i : Nat} {r r' : OneR} (hG : ∀ k, G k ↔ footR bR g rs k) (hi : rs[i]? = some r) (h : Rf w' base bR g cap (rs.set i r')) (hm : Mod (fun k => k = g) w0 w')
    (hr : ∀ k, (blk r'.av = some k ∨ blk r'.kv = some k) → (blk r.av = some k ∨ blk r.kv = some k) ∨ w0.heap.size ≤ k) : URf G w0 w' base bR (osOf (rs.set i r')) := by
  refine ⟨_, ⟨g, cap, _, h, rfl, fun k => Iff.rfl⟩, hm.mono (fun k _ hk => (hG k).2 (.inr (.inl hk))), fun k hk => ?_⟩
  rcases hk with hk | hk | ⟨x, hx, hk⟩
  · exact .inl ((hG k).2 (.inl hk))
  · exact .inl ((hG k).2 (.inr (.inl hk)))
  · rcases List.mem_or_eq_of_mem_set hx with hx | rfl
    · exact .inl ((hG k).2 (.inr (.inr ⟨x, hx, hk⟩)))
    · rcases hr k hk with e | e
      · exact .inl ((hG k).2 (.inr (.inr ⟨r, List.mem_of_getElem? hi, e⟩)))
      · exact .inr e

theorem osOf_set (rs : List OneR) (i : Nat) (r' : OneR) (f : OneM → OneM) {r : OneR} (hi : rs[i]? = some r) (hf : r'.o = f r.o) : osOf (rs.set i r') = (osOf rs).modify i f := by
  apply List.ext_getElem?
  intro j
  rw [List.getElem?_modify]
  simp only [osOf, List.getElem?_map]
  by_cases e : i = j
  · subst e
    rw [List.getElem?_set_self (List.getElem?_eq_some_iff.1 hi).1, hi]
    simp [hf]
  · rw [List.getElem?_set_ne e]
    cases rs[j]? <;> simp [e]

theorem refSetData_none (h : Rf w base bR g cap rs) (k : Int) (s : ByteArray) (hk : hasO (osOf rs) k = false) :
    Calls Try.prog 42 #[.pointer (some ⟨bR, 0, none⟩), .int .i64 k, .string s] w fun e w' => e = .returned (.int .i64 6) ∧ w = w' := by
  have HI := hide (refIs_any h k)
  rw [hk] at HI
  clear h hk
  go_enter Try.func42, Try.ntmps42
  go_wp2_with (go_at_call 79; refine (unhide HI).mono ?_; rintro e w' ⟨rfl, rfl⟩)
  go_ret
  exact ⟨rfl, rfl⟩

set_option maxHeartbeats 1000000 in
theorem refSetData_sim {os : List OneM} {G : Nat → Prop} (hS : RfS w base bR os G) (k : Int) (s : ByteArray) :
    Calls Try.prog 42 #[.pointer (some ⟨bR, 0, none⟩), .int .i64 k, .string s] w fun e w' => e = .returned (.int .i64 (setDataE os k s)) ∧ URf G w w' base bR (setDataR os k s) := by
  have hS0 := hS
  obtain ⟨g, cap, rs, h, rfl, hG⟩ := hS
  cases hh : hasO (osOf rs) k with
  | false =>
    have e6 : setDataE (osOf rs) k s = 6 := by rw [setDataE, if_pos hh]
    have er : setDataR (osOf rs) k s = osOf rs := by rw [setDataR, e6, if_neg (by decide)]
    rw [e6, er]
    exact (refSetData_none h k s hh).mono fun e w' ⟨h1, h2⟩ => ⟨h1, hS0.upd (h2 ▸ Below.refl _ _)⟩
  | true =>
    obtain ⟨i, o, rfl, ho⟩ := hasO_yes hh
    have hlt : i < rs.length := by rw [← osOf_len]; exact (List.getElem?_eq_some_iff.1 ho).1
    obtain ⟨r, hi⟩ : ∃ r, rs[i]? = some r := ⟨_, List.getElem?_eq_getElem hlt⟩
    have hro := osOf_get hi
    rw [ho] at hro
    cases hro
    have HI := hide (refIs_any h i)
    rw [hh] at HI
    have hA := h.cR
    have hlR := h.lt.1
    have hlg := h.lt.2
    have hn := h.most
    have c0 := (h.cells10 hi).1
    have HL := hide (refLong_any (w.alloc (.cells #[.string s] 9)) w.heap.size 1 [s] (one_cell_s w 9 s) (by simp))
    have e1 : [s].any longS = longS s := by simp
    rw [e1] at HL
    have L := h.lists hi
    obtain ⟨v4, d4⟩ := h.there hi 4 (by omega)
    have f4 := h.fg
    have H6 := hide ((h.setC (r' := { r with o := { r.o with data := s } }) hi 4 (by omega) (.string s) rfl ⟨L.attrs, L.kids, L.held⟩).alloc (.cells #[.string s] 9))
    have HG := hide hG
    have HIR := hide hi
    have HS := hide hS0
    have hE : setDataE (osOf rs) i s = if r.o.kind ≠ 2 ∧ r.o.kind ≠ 3 then 10 else if longS s then 2 else 0 := by rw [setDataE, if_neg (by rw [hh]; decide), kindO_of ho]
    clear h e1 L hS0 hG hi hh
    by_cases hk : r.o.kind ≠ 2 ∧ r.o.kind ≠ 3
    · rw [if_pos hk] at hE
      have er : setDataR (osOf rs) i s = osOf rs := by rw [setDataR, hE, if_neg (by decide)]
      rw [hE, er]
      have f1 : (r.o.kind != 2) = true := by simp [hk.1]
      have f2 : (r.o.kind != 3) = true := by simp [hk.2]
      clear hk hE er ho
      go_enter Try.func42, Try.ntmps42
      go_wp2_with (go_at_call 79; refine (unhide HI).mono ?_; rintro e w' ⟨rfl, rfl⟩)
      go_ret
      exact ⟨rfl, (unhide HS).upd (Below.refl _ _)⟩
    · rw [if_neg hk] at hE
      have hk' : r.o.kind = 2 ∨ r.o.kind = 3 := by omega
      clear hk
      cases hl : longS s with
      | true =>
        rw [hl, if_pos rfl] at hE
        have er : setDataR (osOf rs) i s = osOf rs := by rw [setDataR, hE, if_neg (by decide)]
        rw [hE, er]
        rw [hl] at HL
        clear hE er ho hl
        rcases hk' with hk' | hk'
        all_goals
          rw [hk'] at c0
          clear hk'
          go_enter Try.func42, Try.ntmps42
          go_wp2_with (first
            | (go_at_call 79; refine (unhide HI).mono ?_; rintro e w' ⟨rfl, rfl⟩)
            | (go_at_call 95; refine (unhide HL).mono ?_; rintro e w' ⟨rfl, rfl⟩))
          go_ret
          exact ⟨rfl, (unhide HS).upd ((Below.refl _ _).alloc (Nat.le_refl _) _)⟩
      | false =>
        rw [hl, if_neg (by decide)] at hE
        have er : setDataR (osOf rs) i s = osOf (rs.set i { r with o := { r.o with data := s } }) := by
          rw [setDataR, hE, if_pos rfl, Int.toNat_natCast, osOf_set rs i _ (fun o => { o with data := s }) (unhide HIR) rfl]
        rw [hE, er]
        rw [hl] at HL
        clear hE er ho hl
        rcases hk' with hk' | hk'
        all_goals
          rw [hk'] at c0
          clear hk'
          go_enter Try.func42, Try.ntmps42
          go_wp2_with (first
            | (go_at_call 79; refine (unhide HI).mono ?_; rintro e w' ⟨rfl, rfl⟩)
            | (go_at_call 95; refine (unhide HL).mono ?_; rintro e w' ⟨rfl, rfl⟩))
          go_ret
          exact ⟨rfl, urf_set (unhide HG) (unhide HIR) (unhide H6) ((Mod.setCell (F := fun k => k = g) w ⟨g, i * 10 + 4, none⟩ _ rfl).trans (Mod.alloc _ _)) (fun k e => .inl e)⟩
end
end Go.Proofs.Ytlbkoafeedlfaaa
