/-
  The document's arena: Link's refusals, Link, Unlink, SetAttr, DelAttr.
-/
import Derived.Test.YtnclnijlpchdnaaGreatRfA
import Derived.Test.YtnclnijlpchdnaaGreatRfB
namespace Go.Proofs.YtnclnijlpchdnaaGreat
open Go.RowKit

section
variable {w w' : World} {base bR g cap : Nat} {rs : List OneR}

theorem refLink_none (h : Rf w base bR g cap rs) (p c b : Int) (hno : (hasO (osOf rs) p && hasO (osOf rs) c && (b == -1 || hasO (osOf rs) b)) = false) :
    Calls Tryz.prog 73 #[.pointer (some ⟨bR, 0, none⟩), .int .i64 p, .int .i64 c, .int .i64 b] w fun e w' => e = .returned (.int .i64 6) ∧ w = w' := by
  have HI := hide (fun k => refIs_any h k)
  clear h
  cases h1 : hasO (osOf rs) p with
  | false =>
    clear hno
    go_enter Tryz.func73, Tryz.ntmps73
    go_wp2_with (go_at_call 67; refine ((unhide HI) _).mono ?_; rintro e w' ⟨rfl, rfl⟩)
    go_ret
    exact ⟨rfl, rfl⟩
  | true =>
    cases h2 : hasO (osOf rs) c with
    | false =>
      clear hno
      go_enter Tryz.func73, Tryz.ntmps73
      go_wp2_with (go_at_call 67; refine ((unhide HI) _).mono ?_; rintro e w' ⟨rfl, rfl⟩)
      go_ret
      exact ⟨rfl, rfl⟩
    | true =>
      rw [h1, h2] at hno
      simp only [Bool.and_self, Bool.true_and, Bool.or_eq_false_iff] at hno
      have h3 : (b != -1) = true := by rw [bne_iff_ne]; simpa using hno.1
      have h4 := hno.2
      clear hno
      go_enter Tryz.func73, Tryz.ntmps73
      go_wp2_with (go_at_call 67; refine ((unhide HI) _).mono ?_; rintro e w' ⟨rfl, rfl⟩)
      go_ret
      exact ⟨rfl, rfl⟩

/-- The first question is answered: all three are nodes. -/
structure Three (rs : List OneR) (p c : Nat) (b : Int) (rp rc : OneR) : Prop where
  hp : rs[p]? = some rp
  hc : rs[c]? = some rc
  hb : b = -1 ∨ hasO (osOf rs) b = true

set_option maxHeartbeats 1000000 in
theorem refLink_kind (h : Rf w base bR g cap rs) {p c : Nat} {b : Int} {rp rc : OneR} (h3 : Three rs p c b rp rc) (hk : parentM rp.o.kind = false ∨ rc.o.kind = 0 ∨ rc.o.kind = 5) :
    Calls Tryz.prog 73 #[.pointer (some ⟨bR, 0, none⟩), .int .i64 p, .int .i64 c, .int .i64 b] w fun e w' => e = .returned (.int .i64 10) ∧ Below w.heap.size w w' := by
  have hlc : c < rs.length := (List.getElem?_eq_some_iff.1 h3.hc).1
  have HI := hide (fun k => refIs_any h k)
  have HP := hide (refParent_any h p rp h3.hp)
  have i1 : hasO (osOf rs) p = true := hasO_of (osOf_get h3.hp)
  have i2 : hasO (osOf rs) c = true := hasO_of (osOf_get h3.hc)
  have hA := h.cR
  have hn := h.most
  have c0 := (h.cells10 h3.hc).1
  have hbb : (b != -1) = false ∨ ((b != -1) = true ∧ hasO (osOf rs) b = true) := by
    rcases h3.hb with e | e
    · exact .inl (by simp [e])
    · by_cases e1 : b = -1
      · exact .inl (by simp [e1])
      · exact .inr ⟨by rw [bne_iff_ne]; exact e1, e⟩
  clear h h3
  cases hpk : parentM rp.o.kind with
  | false =>
    rw [hpk] at HP
    clear hk
    rcases hbb with hb1 | ⟨hb1, hb2⟩
    all_goals
      go_enter Tryz.func73, Tryz.ntmps73
      go_wp2_with (first
        | (go_at_call 67; refine ((unhide HI) _).mono ?_; rintro e w' ⟨rfl, rfl⟩)
        | (go_at_call 68; refine (unhide HP).mono ?_; rintro e w' ⟨rfl, rfl⟩))
      go_ret
      exact ⟨rfl, Below.refl _ _⟩
  | true =>
    rw [hpk] at HP hk
    simp only [Bool.true_eq_false, false_or] at hk
    by_cases hk0 : rc.o.kind = 0
    · rw [hk0] at c0
      clear hk hk0
      rcases hbb with hb1 | ⟨hb1, hb2⟩
      all_goals
        go_enter Tryz.func73, Tryz.ntmps73
        go_wp2_with (first
          | (go_at_call 67; refine ((unhide HI) _).mono ?_; rintro e w' ⟨rfl, rfl⟩)
          | (go_at_call 68; refine (unhide HP).mono ?_; rintro e w' ⟨rfl, rfl⟩))
        go_ret
        exact ⟨rfl, Below.refl _ _⟩
    · have hk5 : rc.o.kind = 5 := hk.resolve_left hk0
      rw [hk5] at c0
      clear hk hk0 hk5
      rcases hbb with hb1 | ⟨hb1, hb2⟩
      all_goals
        go_enter Tryz.func73, Tryz.ntmps73
        go_wp2_with (first
          | (go_at_call 67; refine ((unhide HI) _).mono ?_; rintro e w' ⟨rfl, rfl⟩)
          | (go_at_call 68; refine (unhide HP).mono ?_; rintro e w' ⟨rfl, rfl⟩))
        go_ret
        exact ⟨rfl, Below.refl _ _⟩

set_option maxHeartbeats 1000000 in
theorem refLink_linked (h : Rf w base bR g cap rs) {p c : Nat} {b : Int} {rp rc : OneR} (h3 : Three rs p c b rp rc) (hends : ∀ i, i < (osOf rs).length → ∃ path, PathOf (upO (osOf rs)) i path) (hk : parentM rp.o.kind = true) (hk0 : rc.o.kind ≠ 0) (hk5 : rc.o.kind ≠ 5)
    (hl : rc.o.up ≠ -1 ∨ aboveO (osOf rs) p c = true) :
    Calls Tryz.prog 73 #[.pointer (some ⟨bR, 0, none⟩), .int .i64 p, .int .i64 c, .int .i64 b] w fun e w' => e = .returned (.int .i64 11) ∧ Below w.heap.size w w' := by
  have hlc : c < rs.length := (List.getElem?_eq_some_iff.1 h3.hc).1
  have HI := hide (fun k => refIs_any h k)
  have HP := hide (refParent_any h p rp h3.hp)
  rw [hk] at HP
  have HAB := hide (refAbove_any h hends p c)
  have i1 : hasO (osOf rs) p = true := hasO_of (osOf_get h3.hp)
  have i2 : hasO (osOf rs) c = true := hasO_of (osOf_get h3.hc)
  have hA := h.cR
  have hn := h.most
  have c0 := (h.cells10 h3.hc).1
  have c8 := (h.cells10 h3.hc).2.2.2.2.2.2.2.2.1
  have f0 : (rc.o.kind == 0) = false := beq_eq_false_iff_ne.2 hk0
  have f5 : (rc.o.kind == 5) = false := beq_eq_false_iff_ne.2 hk5
  have hbb : (b != -1) = false ∨ ((b != -1) = true ∧ hasO (osOf rs) b = true) := by
    rcases h3.hb with e | e
    · exact .inl (by simp [e])
    · by_cases e1 : b = -1
      · exact .inl (by simp [e1])
      · exact .inr ⟨by rw [bne_iff_ne]; exact e1, e⟩
  clear h h3 hends hk hk0 hk5
  by_cases hu : rc.o.up = -1
  · have hab : aboveO (osOf rs) p c = true := hl.resolve_left (by simpa using hu)
    rw [hab] at HAB
    rw [hu] at c8
    clear hl hu hab
    rcases hbb with hb1 | ⟨hb1, hb2⟩
    all_goals
      go_enter Tryz.func73, Tryz.ntmps73
      go_wp2_with (first
        | (go_at_call 67; refine ((unhide HI) _).mono ?_; rintro e w' ⟨rfl, rfl⟩)
        | (go_at_call 68; refine (unhide HP).mono ?_; rintro e w' ⟨rfl, rfl⟩)
        | (go_at_call 69; refine (unhide HAB).mono ?_; rintro e w' ⟨rfl, rfl⟩))
      go_ret
      exact ⟨rfl, Below.refl _ _⟩
  · have hu1 : (rc.o.up != -1) = true := by rw [bne_iff_ne]; exact hu
    clear hl
    rcases hbb with hb1 | ⟨hb1, hb2⟩
    all_goals
      go_enter Tryz.func73, Tryz.ntmps73
      go_wp2_with (first
        | (go_at_call 67; refine ((unhide HI) _).mono ?_; rintro e w' ⟨rfl, rfl⟩)
        | (go_at_call 68; refine (unhide HP).mono ?_; rintro e w' ⟨rfl, rfl⟩)
        | (go_at_call 69; refine (unhide HAB).mono ?_; rintro e w' ⟨rfl, rfl⟩))
      go_ret
      exact ⟨rfl, Below.refl _ _⟩

set_option maxHeartbeats 1000000 in
theorem refLink_arg (h : Rf w base bR g cap rs) {p c : Nat} {b : Int} {rp rc : OneR} (h3 : Three rs p c b rp rc) (hends : ∀ i, i < (osOf rs).length → ∃ path, PathOf (upO (osOf rs)) i path) (hk : parentM rp.o.kind = true) (hk0 : rc.o.kind ≠ 0) (hk5 : rc.o.kind ≠ 5)
    (hu : rc.o.up = -1) (hab : aboveO (osOf rs) p c = false) (hb1 : b ≠ -1) (hbu : upIO (osOf rs) b ≠ p) :
    Calls Tryz.prog 73 #[.pointer (some ⟨bR, 0, none⟩), .int .i64 p, .int .i64 c, .int .i64 b] w fun e w' => e = .returned (.int .i64 1) ∧ Below w.heap.size w w' := by
  have hlc : c < rs.length := (List.getElem?_eq_some_iff.1 h3.hc).1
  have HI := hide (fun k => refIs_any h k)
  have HP := hide (refParent_any h p rp h3.hp)
  rw [hk] at HP
  have HAB := hide (refAbove_any h hends p c)
  rw [hab] at HAB
  have i1 : hasO (osOf rs) p = true := hasO_of (osOf_get h3.hp)
  have i2 : hasO (osOf rs) c = true := hasO_of (osOf_get h3.hc)
  have hA := h.cR
  have hn := h.most
  have c0 := (h.cells10 h3.hc).1
  have c8 := (h.cells10 h3.hc).2.2.2.2.2.2.2.2.1
  rw [hu] at c8
  have f0 : (rc.o.kind == 0) = false := beq_eq_false_iff_ne.2 hk0
  have f5 : (rc.o.kind == 5) = false := beq_eq_false_iff_ne.2 hk5
  have hb2 : hasO (osOf rs) b = true := h3.hb.resolve_left hb1
  obtain ⟨bi, ob, rfl, hob⟩ := hasO_yes hb2
  have hbl : bi < rs.length := by rw [← osOf_len]; exact (List.getElem?_eq_some_iff.1 hob).1
  obtain ⟨rb, hrb⟩ : ∃ r, rs[bi]? = some r := ⟨_, List.getElem?_eq_getElem hbl⟩
  have hro := osOf_get hrb
  rw [hob] at hro
  cases hro
  have c8b := (h.cells10 hrb).2.2.2.2.2.2.2.2.1
  rw [upIO_of hob] at hbu
  have hbn : ((bi : Int) != -1) = true := by rw [bne_iff_ne]; exact hb1
  have hpp : (rb.o.up != (p : Int)) = true := by rw [bne_iff_ne]; exact hbu
  clear h h3 hends hk hk0 hk5 hu hab hbu hob hrb hb1
  go_enter Tryz.func73, Tryz.ntmps73
  go_wp2_with (first
    | (go_at_call 67; refine ((unhide HI) _).mono ?_; rintro e w' ⟨rfl, rfl⟩)
    | (go_at_call 68; refine (unhide HP).mono ?_; rintro e w' ⟨rfl, rfl⟩)
    | (go_at_call 69; refine (unhide HAB).mono ?_; rintro e w' ⟨rfl, rfl⟩))
  go_ret
  exact ⟨rfl, Below.refl _ _⟩
end
end Go.Proofs.YtnclnijlpchdnaaGreat

namespace Go.Proofs.YtnclnijlpchdnaaGreat
open Go.RowKit

section
variable {w w' : World} {base bR : Nat} {os : List OneM} {G : Nat → Prop} {ns : List NodeM}

/-- Two nodes told anew. -/
theorem urf_two {g cap : Nat} {rs : List OneR} {p c : Nat} {rp rc : OneR} {ks : List Nat} {kv : Value} {x : Int} (hG : ∀ k, G k ↔ footR bR g rs k) (hp : rs[p]? = some rp) (hc : rs[c]? = some rc)
    (h : Rf w' base bR g cap ((rs.set p { rp with o := { rp.o with kids := ks }, kv := kv }).set c { rc with o := { rc.o with up := x } })) (hm : Mod (fun k => k = g) w w') (hkv : ∀ k, blk kv = some k → w.heap.size ≤ k) :
    URf G w w' base bR (osOf ((rs.set p { rp with o := { rp.o with kids := ks }, kv := kv }).set c { rc with o := { rc.o with up := x } })) := by
  refine ⟨_, ⟨g, cap, _, h, rfl, fun k => Iff.rfl⟩, hm.mono (fun k _ hk => (hG k).2 (.inr (.inl hk))), fun k hk => ?_⟩
  rcases hk with hk | hk | ⟨y, hy, hk⟩
  · exact .inl ((hG k).2 (.inl hk))
  · exact .inl ((hG k).2 (.inr (.inl hk)))
  · rcases List.mem_or_eq_of_mem_set hy with hy | rfl
    · rcases List.mem_or_eq_of_mem_set hy with hy | rfl
      · exact .inl ((hG k).2 (.inr (.inr ⟨y, hy, hk⟩)))
      · rcases hk with hk | hk
        · exact .inl ((hG k).2 (.inr (.inr ⟨rp, List.mem_of_getElem? hp, .inl hk⟩)))
        · exact .inr (hkv k hk)
    · exact .inl ((hG k).2 (.inr (.inr ⟨rc, List.mem_of_getElem? hc, hk⟩)))

theorem osOf_two {rs : List OneR} {p c : Nat} {rp rc : OneR} (hp : rs[p]? = some rp) (hc : rs[c]? = some rc) (hpc : p ≠ c) (kv : Value) (x : Int) (f : List Nat → List Nat) :
    osOf ((rs.set p { rp with o := { rp.o with kids := f rp.o.kids }, kv := kv }).set c { rc with o := { rc.o with up := x } }) = ((osOf rs).modify p fun o => { o with kids := f o.kids }).modify c fun o => { o with up := x } := by
  rw [osOf_set _ c _ (fun o => { o with up := x }) (by rw [List.getElem?_set_ne hpc]; exact hc) rfl, osOf_set rs p _ (fun o => { o with kids := f o.kids }) hp rfl]

theorem Sim.kids_lt {os : List OneM} (hs : Sim ns os) {p : Nat} {op : OneM} (hop : os[p]? = some op) {c : Nat} (hc : c < os.length) (hn : c ∉ op.kids) : op.kids.length + 1 ≤ os.length := by
  have hK := hs.kids p op hop
  have hnd : (c :: op.kids).Nodup := List.nodup_cons.2 ⟨hn, hK.nodup⟩
  have := List.Nodup.length_le_of_subset hnd (l₂ := List.range os.length) (fun x hx => by
    rw [List.mem_range]
    rcases List.mem_cons.1 hx with rfl | hx
    · exact hc
    · have := hK.mem x hx; rw [hs.len] at this; exact this)
  simpa using this

theorem refLink_sim (hS : RfS w base bR os G) (hs : Sim ns os) (p c b : Int) :
    Calls Tryz.prog 73 #[.pointer (some ⟨bR, 0, none⟩), .int .i64 p, .int .i64 c, .int .i64 b] w fun e w' => e = .returned (.int .i64 (linkE os p c b)) ∧ URf G w w' base bR (linkR os p c b) := by
  have hS0 := hS
  obtain ⟨g, cap, rs, h, rfl, hG⟩ := hS
  have keep : ∀ {e : Int}, linkE (osOf rs) p c b = e → e ≠ 0 → linkR (osOf rs) p c b = osOf rs := fun {e} he hne => by rw [linkR, he, if_neg hne]
  by_cases hno : (hasO (osOf rs) p && hasO (osOf rs) c && (b == -1 || hasO (osOf rs) b)) = false
  · have e6 : linkE (osOf rs) p c b = 6 := by rw [linkE, if_pos hno]
    rw [e6, keep e6 (by decide)]
    exact (refLink_none h p c b hno).mono fun e w' ⟨h1, h2⟩ => ⟨h1, hS0.upd (h2 ▸ Below.refl _ _)⟩
  · have hno' : hasO (osOf rs) p = true ∧ hasO (osOf rs) c = true ∧ (b = -1 ∨ hasO (osOf rs) b = true) := by
      have := hno
      simp only [Bool.not_eq_false, Bool.and_eq_true, Bool.or_eq_true, beq_iff_eq] at this
      exact ⟨this.1.1, this.1.2, this.2⟩
    obtain ⟨hp, hc, hb⟩ := hno'
    obtain ⟨pi, op, rfl, hop⟩ := hasO_yes hp
    obtain ⟨ci, oc, rfl, hoc⟩ := hasO_yes hc
    have hpl : pi < rs.length := by rw [← osOf_len]; exact (List.getElem?_eq_some_iff.1 hop).1
    have hcl : ci < rs.length := by rw [← osOf_len]; exact (List.getElem?_eq_some_iff.1 hoc).1
    obtain ⟨rp, hrp⟩ : ∃ r, rs[pi]? = some r := ⟨_, List.getElem?_eq_getElem hpl⟩
    obtain ⟨rc, hrc⟩ : ∃ r, rs[ci]? = some r := ⟨_, List.getElem?_eq_getElem hcl⟩
    have e1 := osOf_get hrp
    rw [hop] at e1
    cases e1
    have e2 := osOf_get hrc
    rw [hoc] at e2
    cases e2
    have h3 : Three rs pi ci b rp rc := ⟨hrp, hrc, hb⟩
    have hE : linkE (osOf rs) pi ci b = if parentM rp.o.kind = false ∨ rc.o.kind = 0 ∨ rc.o.kind = 5 then 10 else if rc.o.up ≠ -1 ∨ aboveO (osOf rs) pi ci = true then 11 else if b ≠ -1 ∧ upIO (osOf rs) b ≠ pi then 1 else 0 := by
      rw [linkE, if_neg hno, kindO_of hop, kindO_of hoc, upIO_of hoc]
    by_cases k1 : parentM rp.o.kind = false ∨ rc.o.kind = 0 ∨ rc.o.kind = 5
    · rw [if_pos k1] at hE
      rw [hE, keep hE (by decide)]
      exact (refLink_kind h h3 k1).mono fun e w' ⟨h1, h2⟩ => ⟨h1, hS0.upd h2⟩
    · rw [if_neg k1] at hE
      have hk : parentM rp.o.kind = true := by
        cases hh : parentM rp.o.kind with
        | true => rfl
        | false => exact absurd (.inl hh) k1
      have hk0 : rc.o.kind ≠ 0 := fun e => k1 (.inr (.inl e))
      have hk5 : rc.o.kind ≠ 5 := fun e => k1 (.inr (.inr e))
      by_cases k2 : rc.o.up ≠ -1 ∨ aboveO (osOf rs) pi ci = true
      · rw [if_pos k2] at hE
        rw [hE, keep hE (by decide)]
        exact (refLink_linked h h3 hs.ends hk hk0 hk5 k2).mono fun e w' ⟨h1, h2⟩ => ⟨h1, hS0.upd h2⟩
      · rw [if_neg k2] at hE
        have hup : rc.o.up = -1 := Decidable.byContradiction fun e => k2 (.inl e)
        have hab : aboveO (osOf rs) pi ci = false := by
          cases hh : aboveO (osOf rs) pi ci with
          | false => rfl
          | true => exact absurd (.inr hh) k2
        by_cases k3 : b ≠ -1 ∧ upIO (osOf rs) b ≠ pi
        · rw [if_pos k3] at hE
          rw [hE, keep hE (by decide)]
          exact (refLink_arg h h3 hs.ends hk hk0 hk5 hup hab k3.1 k3.2).mono fun e w' ⟨h1, h2⟩ => ⟨h1, hS0.upd h2⟩
        · rw [if_neg k3] at hE
          obtain ⟨path, hpath⟩ := hs.ends pi (by rw [osOf_len]; exact hpl)
          have hnot : ci ∉ path := fun e => by
            have := aboveO_of hop (hasO_of hoc) hpath
            rw [hab, mem_inPath.2 e] at this; cases this
          have hpc : pi ≠ ci := fun e => hnot (e ▸ path_head hpath)
          have hcout : ci ∉ rp.o.kids := fun hx => by
            obtain ⟨m, hm, hu⟩ := hs.down pi rp.o ci hop hx
            rw [hoc] at hm; cases hm; omega
          have hbu : b = -1 ∨ upIO (osOf rs) b = pi := by
            by_cases e : b = -1
            · exact .inl e
            · exact .inr (Decidable.byContradiction fun e2 => k3 ⟨e, e2⟩)
          have hmem : b = -1 ∨ ∃ x ∈ rp.o.kids, b = (x : Int) := by
            rcases hb with hb | hb
            · exact .inl hb
            · rcases hbu with hbu | hbu
              · exact .inl hbu
              · obtain ⟨bi, ob, rfl, hob⟩ := hasO_yes hb
                rw [upIO_of hob] at hbu
                rcases hs.up bi ob hob with e | ⟨q, m, e, hqm, hi⟩
                · omega
                · have : q = pi := by omega
                  subst this
                  rw [hop] at hqm; cases hqm
                  exact .inr ⟨bi, hi, rfl⟩
          have hsm : rp.o.kids.length + 1 ≤ 32768 := by
            have := hs.kids_lt hop (by rw [osOf_len]; exact hcl) hcout
            rw [osOf_len] at this
            have := h.most; omega
          have hR : linkR (osOf rs) pi ci b = linkO (osOf rs) pi ci b := by rw [linkR, hE, if_pos rfl]; simp
          rw [hE, hR]
          refine (refLink_ok h pi ci rp rc hrp hrc hpc b hb hs.ends hk hk0 hk5 hup hab hbu hsm (hs.kids pi rp.o hop).nodup hmem).mono fun e w' ⟨h1, kv, h2, h3, h4⟩ => ⟨h1, ?_⟩
          have := urf_two hG hrp hrc h2 h3 h4
          rw [osOf_two hrp hrc hpc kv (pi : Int) (fun l => insO l b ci)] at this
          exact this
end
end Go.Proofs.YtnclnijlpchdnaaGreat

namespace Go.Proofs.YtnclnijlpchdnaaGreat
open Go.RowKit

section
variable {w w' : World} {base bR : Nat} {os : List OneM} {G : Nat → Prop} {ns : List NodeM}

def dropK (c : Nat) (l : List Nat) : List Nat := l.filter (· ≠ c)

theorem refUnlink_none {g cap : Nat} {rs : List OneR} (h : Rf w base bR g cap rs) (k : Int) (hk : hasO (osOf rs) k = false) :
    Calls Tryz.prog 72 #[.pointer (some ⟨bR, 0, none⟩), .int .i64 k] w fun e w' => e = .returned (.int .i64 6) ∧ w = w' := by
  have HI := hide (refIs_any h k)
  rw [hk] at HI
  clear h hk
  go_enter Tryz.func72, Tryz.ntmps72
  go_wp2_with (go_at_call 67; refine (unhide HI).mono ?_; rintro e w' ⟨rfl, rfl⟩)
  go_ret
  exact ⟨rfl, rfl⟩

theorem refUnlink_free {g cap : Nat} {rs : List OneR} (h : Rf w base bR g cap rs) (i : Nat) (r : OneR) (hi : rs[i]? = some r) (hu : r.o.up = -1) :
    Calls Tryz.prog 72 #[.pointer (some ⟨bR, 0, none⟩), .int .i64 i] w fun e w' => e = .returned (.int .i64 5) ∧ w = w' := by
  have hlt : i < rs.length := (List.getElem?_eq_some_iff.1 hi).1
  have HI := hide (refIs_any h i)
  have q1 : hasO (osOf rs) i = true := hasO_of (osOf_get hi)
  rw [q1] at HI
  have hA := h.cR
  have hn := h.most
  have c8 := (h.cells10 hi).2.2.2.2.2.2.2.2.1
  rw [hu] at c8
  clear h hi q1 hu
  go_enter Tryz.func72, Tryz.ntmps72
  go_wp2_with (go_at_call 67; refine (unhide HI).mono ?_; rintro e w' ⟨rfl, rfl⟩)
  go_ret
  exact ⟨rfl, rfl⟩

set_option maxHeartbeats 4000000 in
theorem refUnlink_ok {g cap : Nat} {rs : List OneR} (h : Rf w base bR g cap rs) (p c : Nat) (rp rc : OneR) (hp : rs[p]? = some rp) (hc : rs[c]? = some rc) (hpc : p ≠ c) (hup : rc.o.up = (p : Int)) :
    Calls Tryz.prog 72 #[.pointer (some ⟨bR, 0, none⟩), .int .i64 c] w fun e w' => e = .returned (.int .i64 0) ∧
      ∃ kv, Rf w' base bR g cap ((rs.set p { rp with o := { rp.o with kids := dropK c rp.o.kids }, kv := kv }).set c { rc with o := { rc.o with up := -1 } }) ∧ Mod (fun k => k = g) w w' ∧ (∀ k, blk kv = some k → w.heap.size ≤ k) := by
  have hlp : p < rs.length := (List.getElem?_eq_some_iff.1 hp).1
  have hlc : c < rs.length := (List.getElem?_eq_some_iff.1 hc).1
  have HI := hide (refIs_any h c)
  have i2 : hasO (osOf rs) c = true := hasO_of (osOf_get hc)
  rw [i2] at HI
  have hn := h.most
  have hA := h.cR
  have c8 := (h.cells10 hc).2.2.2.2.2.2.2.2.1
  rw [hup] at c8
  have hp1 : ((p : Int) == -1) = false := beq_eq_false_iff_ne.2 (by omega)
  obtain ⟨a, cp, hkv, hin, hkl⟩ := h.kids p rp hp
  obtain ⟨i0, hi0, hz0, hz1, hz2⟩ := info_parts Tryz.info3
  generalize hks : rp.o.kids = ks at *
  have HIN := hide hin
  have HH := hide h
  have HPP := hide hp
  have HCC := hide hc
  have HKV := hide hkv
  clear hin h hp hc i2 hkv hup
  go_enter Tryz.func72, Tryz.ntmps72
  go_wp2_with (go_at_call 67; refine (unhide HI).mono ?_; rintro e w' ⟨rfl, rfl⟩)
  go_loopg [6, 7] ks.length (fun k s6 s7 wx => ∃ (j : Nat) (xs : List Nat), s7 = .int .i64 j ∧ j + k = ks.length ∧ xs = (ks.take j).filter (· ≠ c) ∧ xs.length ≤ j ∧ Acc w wx s6 xs)
  case atStart => exact ⟨0, [], rfl, by omega, by simp, by simp, Acc.nil w w (Below.refl _ _)⟩
  case round =>
    obtain ⟨j, xs, rfl, hjk, hxs, hxl, hacc⟩ := hrel
    have HC := hide hacc
    have HXS := hide hxs
    clear hacc hxs
    have har := (unhide HH).below (unhide HC).below
    have hA1 := har.cR
    have c9 := (har.cells10 (unhide HPP)).2.2.2.2.2.2.2.2.2
    rw [unhide HKV] at c9
    by_cases hj : j < ks.length
    · have hx : ks[j]? = some ks[j] := List.getElem?_eq_getElem hj
      generalize ks[j] = y at hx
      obtain ⟨bb, off, rfl, hcw⟩ := (unhide HIN).cells j y hx
      have hblt : bb < w.heap.size := World.block_lt_of_cell? w _ hcw
      have hcj := ((unhide HC).below.cell (p := ⟨bb, off + j, none⟩) hblt).trans hcw
      have hjz : (j : Int) < (ks.length : Int) := by omega
      have htk : (ks.take (j + 1)).filter (· ≠ c) = (ks.take j).filter (· ≠ c) ++ (if y = c then [] else [y]) := by
        rw [List.take_add_one, hx, List.filter_append]
        by_cases e : y = c <;> simp [e]
      have HTK := hide htk
      clear htk hx har
      by_cases hyc : y = c
      · have hne : ((y : Int) != (c : Int)) = false := by simp [hyc]
        have hyc' : (if y = c then [] else [y] : List Nat) = [] := by simp [hyc]
        rw [hyc'] at HTK
        clear hyc hyc'
        go_wp2
        go_roundg (gk - 1)
        case measure => omega
        case rel => exact ⟨j + 1, xs, by go_num, by omega, by rw [unhide HTK, unhide HXS]; simp, by omega, unhide HC⟩
      · have hne : ((y : Int) != (c : Int)) = true := by rw [bne_iff_ne]; omega
        have hyc' : (if y = c then [] else [y] : List Nat) = [y] := by simp [hyc]
        rw [hyc'] at HTK
        clear hyc hyc'
        go_wp2_with (first
          | (at_builtin; go_must (refine wpList_append_lies _ (by rfl) _ _ 32 (by rfl) w.heap.size 3 i0 _ 1 8 Tryz.underlying32 hi0 hz0 hz1 hz2 rfl (by omega) u6 xs.length (intsV xs) (by rfl) ((unhide HC).own.alloc _) ⟨wr.heap.size, 0, none⟩ 1 1 [.int .i64 (y : Int)] (by rfl) (by rfl) (one_news wr 3 _) (by simp [Value.oneCell']) (by omega) (by unfold maxLen; omega) (by omega) (by have := (unhide HC).below.size; simp; omega) _ rfl ?_); intro g1 c1 w1 hown1 hgrow1 hat1 hlt1; have HC1 := hide ((unhide HC).step (y := y) _ hown1 hgrow1); clear hown1 hgrow1 hat1 hlt1))
        go_roundg (gk - 1)
        case measure => omega
        case rel => exact ⟨j + 1, xs ++ [y], by go_num, by omega, by rw [unhide HTK, unhide HXS], by simp; omega, unhide HC1⟩
    · have hjz : ¬ (j : Int) < (ks.length : Int) := by omega
      obtain rfl : j = ks.length := by omega
      have hfin : xs = dropK c ks := by rw [unhide HXS, List.take_length]; rfl
      have HFIN := hide hfin
      obtain ⟨a9, k9, e9, _⟩ := ownsRow_ints (unhide HC).own
      subst e9
      have fg1 := har.fg
      have nR := har.neRg
      obtain ⟨v8, d8⟩ := har.there (unhide HCC) 8 (by omega)
      clear hfin har
      set_option maxRecDepth 10000 in
      go_wp2
      go_ret
      refine ⟨rfl, ?_⟩
      rw [← unhide HFIN]
      exact link_close (unhide HH) (unhide HC) (unhide HPP) (unhide HCC) hpc (by omega) (-1)

theorem no_loop {f : Nat → Option Int} {i : Nat} (h : f i = some (i : Int)) : ∀ (path : List Nat), ¬ PathOf f i path
  | [], hp => by have : (i : Int) = -1 := hp; omega
  | j :: r, hp => by
    obtain ⟨e, m, hm, hr⟩ := hp
    have : i = j := by omega
    subst this
    rw [h] at hm
    cases hm
    exact no_loop h r hr

theorem refUnlink_sim (hS : RfS w base bR os G) (hs : Sim ns os) (c : Int) :
    Calls Tryz.prog 72 #[.pointer (some ⟨bR, 0, none⟩), .int .i64 c] w fun e w' => e = .returned (.int .i64 (unlinkE os c)) ∧ URf G w w' base bR (unlinkR os c) := by
  have hS0 := hS
  obtain ⟨g, cap, rs, h, rfl, hG⟩ := hS
  cases hh : hasO (osOf rs) c with
  | false =>
    have e6 : unlinkE (osOf rs) c = 6 := by rw [unlinkE, if_pos hh]
    have hr : unlinkR (osOf rs) c = osOf rs := by rw [unlinkR, e6, if_neg (by decide)]
    rw [e6, hr]
    exact (refUnlink_none h c hh).mono fun e w' ⟨h1, h2⟩ => ⟨h1, hS0.upd (h2 ▸ Below.refl _ _)⟩
  | true =>
    obtain ⟨ci, oc, rfl, hoc⟩ := hasO_yes hh
    have hcl : ci < rs.length := by rw [← osOf_len]; exact (List.getElem?_eq_some_iff.1 hoc).1
    obtain ⟨rc, hrc⟩ : ∃ r, rs[ci]? = some r := ⟨_, List.getElem?_eq_getElem hcl⟩
    have e2 := osOf_get hrc
    rw [hoc] at e2
    cases e2
    by_cases hu : rc.o.up = -1
    · have e5 : unlinkE (osOf rs) ci = 5 := by rw [unlinkE, if_neg (by rw [hh]; decide), upIO_of hoc, if_pos hu]
      have hr : unlinkR (osOf rs) ci = osOf rs := by rw [unlinkR, e5, if_neg (by decide)]
      rw [e5, hr]
      exact (refUnlink_free h ci rc hrc hu).mono fun e w' ⟨h1, h2⟩ => ⟨h1, hS0.upd (h2 ▸ Below.refl _ _)⟩
    · have e0 : unlinkE (osOf rs) ci = 0 := by rw [unlinkE, if_neg (by rw [hh]; decide), upIO_of hoc, if_neg hu]
      obtain ⟨p, op, A, B, hup, hop, hk⟩ := hs.cut hoc hu
      have hpl : p < rs.length := by rw [← osOf_len]; exact (List.getElem?_eq_some_iff.1 hop).1
      obtain ⟨rp, hrp⟩ : ∃ r, rs[p]? = some r := ⟨_, List.getElem?_eq_getElem hpl⟩
      have e1 := osOf_get hrp
      rw [hop] at e1
      cases e1
      have hpc : p ≠ ci := by
        intro e
        subst e
        obtain ⟨path, hpath⟩ := hs.ends p (by rw [osOf_len]; exact hpl)
        have hself : upO (osOf rs) p = some (p : Int) := by rw [upO_of hoc, if_neg hu, hup]
        exact absurd hpath (no_loop hself path)
      have hr : unlinkR (osOf rs) ci = unlinkO (osOf rs) p ci := by rw [unlinkR, if_pos e0, upIO_of hoc, hup]; simp
      rw [e0, hr]
      refine (refUnlink_ok h p ci rp rc hrp hrc hpc hup).mono fun e w' ⟨h1, kv, h2, h3, h4⟩ => ⟨h1, ?_⟩
      have := urf_two hG hrp hrc h2 h3 h4
      rw [osOf_two hrp hrc hpc kv (-1) (fun l => dropK ci l)] at this
      exact this
end
end Go.Proofs.YtnclnijlpchdnaaGreat

namespace Go.Proofs.YtnclnijlpchdnaaGreat
open Go.RowKit

/-- A list of attributes that is being made, in new memory. -/
structure AccA (w0 wx : World) (v : Value) (xs : List AttrM) : Prop where
  own : wx.ownsRow w0.heap.size 72 4 v xs.length (attrRow xs)
  below : Below w0.heap.size w0 wx

section
variable {w w' : World} {base bR g cap : Nat} {rs : List OneR}

theorem attr_news (w : World) (x : AttrM) : ∀ j u, x.cells[j]? = some u → (w.alloc (.cells #[.int .i64 x.space, .string x.pre, .string x.name, .string x.val] 72)).cell? ((⟨w.heap.size, 0, none⟩ : Addr).add j) = some u :=
  World.news_of_block (w := w.alloc (.cells #[.int .i64 x.space, .string x.pre, .string x.name, .string x.val] 72)) (B := w.heap.size) (t := 72) (fr := (0, 0)) (heap_alloc_new w _)

theorem AccA.step {w0 wx w1 : World} {v : Value} {xs ys : List AttrM} {g1 c1 : Nat} (h : AccA w0 wx v xs) (w2 : World) (hb2 : Below wx.heap.size wx w2) (hown : w1.ownsRow w0.heap.size 72 4 (.slice (some ⟨g1, 0, none⟩) (xs.length + ys.length) c1) (xs.length + ys.length) (attrRow xs ++ attrRow ys)) (hgrow : w2.grownBy w1 v.ownBlock) :
    AccA w0 w1 (.slice (some ⟨g1, 0, none⟩) (xs.length + ys.length) c1) (xs ++ ys) := by
  refine ⟨by simpa [attrRow] using hown, (h.below.trans (hb2.mono h.below.size)).grown hgrow (Nat.le_trans h.below.size hb2.size) (fun k hk => (ownsRow_base h.own hk).1)⟩

/-- The attributes of one node told anew. -/
theorem attr_close {wx : World} {v : Value} {xs : List AttrM} (h : Rf w base bR g cap rs) (hacc : AccA w wx v xs) {i : Nat} {r : OneR} (hi : rs[i]? = some r) (hlen : xs.length ≤ 1024) :
    ∃ av, Rf (wx.setCell ⟨g, i * 10 + 3, none⟩ v) base bR g cap (rs.set i { r with o := { r.o with attrs := xs }, av := av }) ∧ Mod (fun k => k = g) w (wx.setCell ⟨g, i * 10 + 3, none⟩ v) ∧ (∀ k, blk av = some k → w.heap.size ≤ k) := by
  have hx := h.below hacc.below
  obtain ⟨a, cp, hv, hin⟩ := ownsRow_attrs hacc.own
  have hcap : xs.length ≤ cp := by
    rcases hacc.own.2 with ⟨e, h0⟩ | ⟨g', cap', cur, e, _, _, hc, _⟩
    · omega
    · rw [hv] at e
      simp only [Value.slice.injEq] at e
      omega
  have hnew : ∀ k, blk v = some k → w.heap.size ≤ k ∧ k < wx.heap.size := fun k hk => ownsRow_base hacc.own (by
    rcases hacc.own.2 with ⟨e, _⟩ | ⟨g', cap', cur, e, _⟩
    · rw [e] at hk; simp [blk] at hk
    · rw [e] at hk ⊢; simpa [blk, Value.ownBlock] using hk)
  have L := hx.lists hi
  have hbase : base ≤ w.heap.size := Nat.le_trans h.base_g (Nat.le_of_lt h.lt.2)
  have h1 := hx.setC (r' := { r with o := { r.o with attrs := xs }, av := v }) hi 3 (by omega) v rfl ⟨⟨a, cp, hv, hin, hlen, hcap⟩, L.kids, fun k e => by
    rcases e with e | e
    · obtain ⟨e1, e2⟩ := hnew k e
      have := h.lt
      exact ⟨by omega, e2, by omega, by omega⟩
    · exact L.held k (.inr e)⟩
  exact ⟨v, h1, (Mod.of_below hacc.below).trans (Mod.setCell (F := fun k => k = g) wx ⟨g, i * 10 + 3, none⟩ v rfl), fun k hk => (hnew k hk).1⟩

theorem refSetAttr_none (h : Rf w base bR g cap rs) (k : Int) (x : AttrM) (hk : hasO (osOf rs) k = false) :
    Calls Tryz.prog 78 #[.pointer (some ⟨bR, 0, none⟩), .int .i64 k, x.agg] w fun e w' => e = .returned (.int .i64 6) ∧ Below w.heap.size w w' := by
  have HI := hide (fun w' hb => refIs_any (h.below hb) k (w := w'))
  rw [hk] at HI
  have hb0 := Below.refl w.heap.size w
  have hb1 := (Below.refl w.heap.size w).alloc (Nat.le_refl _) (.cells #[.int .i64 x.space, .string x.pre, .string x.name, .string x.val] 72)
  unfold AttrM.agg
  clear h hk
  go_enter Tryz.func78, Tryz.ntmps78
  go_wp2_with (go_at_call 67; refine ((unhide HI) _ (by assumption)).mono ?_; rintro e w' ⟨rfl, rfl⟩)
  go_ret
  exact ⟨rfl, by assumption⟩
end
end Go.Proofs.YtnclnijlpchdnaaGreat

namespace Go.Proofs.YtnclnijlpchdnaaGreat
open Go.RowKit

section
variable {w w' : World} {base bR g cap : Nat} {rs : List OneR}

def xObj (x : AttrM) : Obj := .cells #[.int .i64 x.space, .string x.pre, .string x.name, .string x.val] 72
def xStr (x : AttrM) : Obj := .cells #[.string x.pre, .string x.name, .string x.val] 9

theorem box_cells {w w3 : World} (x : AttrM) (o : Obj) (hb : Below ((w.alloc (xObj x)).alloc o).heap.size ((w.alloc (xObj x)).alloc o) w3) :
    w3.cell? ⟨w.heap.size, 0, none⟩ = some (.int .i64 x.space) ∧ w3.cell? ⟨w.heap.size, 1, none⟩ = some (.string x.pre) ∧ w3.cell? ⟨w.heap.size, 2, none⟩ = some (.string x.name) ∧ w3.cell? ⟨w.heap.size, 3, none⟩ = some (.string x.val) := by
  have hlt : w.heap.size < ((w.alloc (xObj x)).alloc o).heap.size := by simp; omega
  refine ⟨(hb.cell (p := ⟨w.heap.size, 0, none⟩) hlt).trans ?_, (hb.cell (p := ⟨w.heap.size, 1, none⟩) hlt).trans ?_, (hb.cell (p := ⟨w.heap.size, 2, none⟩) hlt).trans ?_, (hb.cell (p := ⟨w.heap.size, 3, none⟩) hlt).trans ?_⟩
  all_goals simp [xObj]

/-- Behind the first append: the list is made, the attribute still lies where it lay. -/
theorem first_app {w w3 w4 : World} {l : List AttrM} {g4 c4 : Nat} {x : AttrM} (hb : Below w.heap.size w w3) (hlx : w.heap.size < w3.heap.size) (x0 : w3.cell? ⟨w.heap.size, 0, none⟩ = some (.int .i64 x.space)) (x1 : w3.cell? ⟨w.heap.size, 1, none⟩ = some (.string x.pre)) (x2 : w3.cell? ⟨w.heap.size, 2, none⟩ = some (.string x.name)) (x3 : w3.cell? ⟨w.heap.size, 3, none⟩ = some (.string x.val))
    (hown : w4.ownsRow w.heap.size 72 4 (.slice (some ⟨g4, 0, none⟩) (0 + l.length) c4) (0 + l.length) ([] ++ attrRow l)) (hgrow : (w3.alloc (.cells #[] 72)).grownBy w4 (Value.slice (some ⟨w3.heap.size, 0, none⟩) 0 0).ownBlock) (hat : (Value.slice (some ⟨w3.heap.size, 0, none⟩) 0 0).ownBlock = some g4 ∨ g4 = (w3.alloc (.cells #[] 72)).heap.size) :
    Hid (AccA w w4 (.slice (some ⟨g4, 0, none⟩) l.length c4) l) ∧ w4.cell? ⟨w.heap.size, 0, none⟩ = some (.int .i64 x.space) ∧ w4.cell? ⟨w.heap.size, 1, none⟩ = some (.string x.pre) ∧ w4.cell? ⟨w.heap.size, 2, none⟩ = some (.string x.name) ∧ w4.cell? ⟨w.heap.size, 3, none⟩ = some (.string x.val) ∧
      w.heap.size < w4.heap.size ∧ w.heap.size ≠ g4 := by
  simp only [Nat.zero_add, List.nil_append] at hown
  have far : ∀ j, w4.cell? ⟨w.heap.size, j, none⟩ = w3.cell? ⟨w.heap.size, j, none⟩ := fun j =>
    (hgrow.cell_far ⟨w.heap.size, j, none⟩ (by simp; omega) (by simp [Value.ownBlock]; omega)).trans (((Below.refl _ w3).alloc (Nat.le_refl _) _).cell (p := ⟨w.heap.size, j, none⟩) hlx)
  refine ⟨hide ⟨hown, (hb.alloc hb.size _).grown hgrow (by have := hb.size; simp; omega) (fun k hk => by simp [Value.ownBlock] at hk; have := hb.size; omega)⟩, (far 0).trans x0, (far 1).trans x1, (far 2).trans x2, (far 3).trans x3, ?_, ?_⟩
  · have := hgrow.size; simp at this; omega
  · rcases hat with e | e
    · simp [Value.ownBlock] at e; omega
    · simp at e; omega

theorem AccA.setv {w0 wx : World} {l : List AttrM} {g4 c4 j : Nat} {y : AttrM} (h : AccA w0 wx (.slice (some ⟨g4, 0, none⟩) l.length c4) l) (hy : l[j]? = some y) (v : ByteArray) :
    AccA w0 (wx.setCell ⟨g4, j * 4 + 3, none⟩ (.string v)) (.slice (some ⟨g4, 0, none⟩) l.length c4) (setVal l j v) ∧ wx.frozen? ⟨g4, j * 4 + 3, none⟩ = false ∧ ∃ u, wx.cell? ⟨g4, j * 4 + 3, none⟩ = some u := by
  have hjl : j < l.length := (List.getElem?_eq_some_iff.1 hy).1
  have hst := h.own.stored (j * 4 + 3) (.string v)
  refine ⟨⟨?_, ?_⟩, h.own.frozenAt (j * 4 + 3), ?_⟩
  · rw [setVal_len, setVal_of hy, attrRow, ← flat_set AttrM.cells 4 attr_len l j 3 (by omega) y { y with val := v } (.string v) hy (by simp [AttrM.cells])]
    exact hst.1
  · have hg : w0.heap.size ≤ g4 := (ownsRow_base h.own (k := g4) rfl).1
    exact h.below.trans ((Mod.setCell (F := fun k => k = g4) wx ⟨g4, j * 4 + 3, none⟩ (.string v) rfl).below h.below.size (fun k hk => by subst hk; exact hg))
  · rw [h.own.cellAt (j * 4 + 3) (by omega)]
    exact ⟨_, List.getElem?_eq_getElem (by rw [show (attrRow l).length = l.length * 4 from flat_len AttrM.cells 4 attr_len _]; omega)⟩

set_option maxHeartbeats 4000000 in
theorem refSetAttr_in (h : Rf w base bR g cap rs) (i : Nat) (r : OneR) (hi : rs[i]? = some r) (x : AttrM) (hk : r.o.kind = 1) (hx : x.long = false) (hroom : ¬ (idxM (sameKey x.space x.name) r.o.attrs = -1 ∧ ¬ r.o.attrs.length < 1024)) :
    Calls Tryz.prog 78 #[.pointer (some ⟨bR, 0, none⟩), .int .i64 i, x.agg] w fun e w' => e = .returned (.int .i64 0) ∧
      ∃ av, Rf w' base bR g cap (rs.set i { r with o := { r.o with attrs := setL r.o.attrs x }, av := av }) ∧ Mod (fun k => k = g) w w' ∧ (∀ k, blk av = some k → w.heap.size ≤ k) := by
  have hlt : i < rs.length := (List.getElem?_eq_some_iff.1 hi).1
  have HI := hide (fun w' hb => refIs_any (h.below hb) i (w := w'))
  have q1 : hasO (osOf rs) i = true := hasO_of (osOf_get hi)
  rw [q1] at HI
  have hA := h.cR
  have hlR := h.lt.1
  have hlg := h.lt.2
  have hn := h.most
  have c0 := (h.cells10 hi).1
  rw [hk] at c0
  have hb1 : Below w.heap.size w (w.alloc (xObj x)) := (Below.refl w.heap.size w).alloc (Nat.le_refl _) _
  have hb2 : Below w.heap.size w ((w.alloc (xObj x)).alloc (xStr x)) := hb1.alloc (by simp) _
  have HL := hide (refLong_any ((w.alloc (xObj x)).alloc (xStr x)) (w.heap.size + 1) 3 [x.pre, x.name, x.val] (by have := threeS (w.alloc (xObj x)) 9 x.pre x.name x.val; rw [World.size_alloc] at this; exact this) (by simp))
  have e3 : [x.pre, x.name, x.val].any longS = false := hx
  rw [e3] at HL
  have HF := hide (refFind_any (h.below hb2) i r hi x.space x.name)
  have HB1 := hide hb1
  have HB2 := hide hb2
  have HH := hide h
  have HIR := hide hi
  unfold AttrM.agg
  obtain ⟨a, cp, hav, hin, hal⟩ := h.attrs i r hi
  have HAV := hide hav
  have HIN := hide hin
  obtain ⟨i0, hi0, hz0, hz1, hz2⟩ := info_parts Tryz.info72
  generalize hl : r.o.attrs = l at *
  unfold xObj xStr at HL HF HB2
  unfold xObj at HB1
  clear h hi hk hx q1 hb1 hb2 e3 hin hav
  rcases idxM_or (sameKey x.space x.name) l with hj | ⟨j, hj⟩
  · have hlen : l.length < 1024 := Decidable.byContradiction fun e => hroom ⟨hj, e⟩
    have hmany : ¬ (1024 : Int) ≤ (l.length : Int) := by omega
    have hset : setL l x = l ++ [x] := by rw [setL, if_pos hj]
    have HSET := hide hset
    rw [hj] at HF
    clear hroom hset
    by_cases hl0 : 0 < l.length
    · obtain ⟨b, off, rfl⟩ := Addr.of_lt (unhide HIN) hl0
      go_enter Tryz.func78, Tryz.ntmps78
      set_option maxRecDepth 10000 in
      go_wp2_with (first
        | (go_at_call 67; refine ((unhide HI) _ (unhide HB1)).mono ?_; rintro e w' ⟨rfl, rfl⟩)
        | (go_at_call 80; refine (unhide HL).mono ?_; rintro e w' ⟨rfl, rfl⟩)
        | (go_at_call 102; refine (unhide HF).mono ?_; rintro e w3 ⟨rfl, hb3⟩; have HB3 := hide hb3; have hb03 := (unhide HB2).trans (hb3.mono (unhide HB2).size); have HB03 := hide hb03; have har3 := (unhide HH).below hb03; have hA3 := har3.cR; have lR3 : bR < w3.heap.size := har3.lt.1; have lg3 : g < w3.heap.size := har3.lt.2; have fg3 := har3.fg; have c33 := (har3.cells10 (unhide HIR)).2.2.2.1; rw [unhide HAV] at c33; obtain ⟨x0, x1, x2, x3⟩ := box_cells x _ hb3; have hs3 := hb03.size; have hlx : w.heap.size < w3.heap.size := (by have := hb3.size; simp at this; omega); have HIN3 := hide ((unhide HIN).below hb03); clear hb3 hb03 har3)
        | (at_builtin; refine wpList_append_lies _ (by rfl) _ _ 34 (by rfl) w.heap.size 72 i0 _ 4 56 Tryz.underlying34 hi0 hz0 hz1 hz2 rfl (by omega) (.slice (some ⟨g4, 0, none⟩) l.length c4) l.length (attrRow l) (by rfl) ((unhide HC4).own.alloc _) ⟨w4.heap.size, 0, none⟩ 1 1 x.cells (by rfl) (by rfl) (attr_news w4 x) (by simp [AttrM.cells, Value.oneCell']) (by omega) (by unfold maxLen; omega) (by omega) (by have := (unhide HC4).below.size; simp; omega) _ rfl ?_; intro g5 c5 w5 hown5 hgrow5 hat5 hlt5; have HC5 : Hid (AccA w w5 (.slice (some ⟨g5, 0, none⟩) (l.length + 1) c5) (l ++ [x])) := (unhide HC4).step (ys := [x]) _ ((Below.refl _ w4).alloc (Nat.le_refl _) _) (by simpa [attrRow] using hown5) hgrow5; have har5 := (unhide HH).below (unhide HC5).below; have hA5 := har5.cR; have fg5 := har5.fg; have nR5 := har5.neRg; obtain ⟨v5, d5⟩ := har5.there (unhide HIR) 3 (by omega); clear har5; clear hown5 hgrow5 hat5)
        | (at_builtin; go_must (refine wpList_append_lies _ (by rfl) _ _ 34 (by rfl) w.heap.size 72 i0 _ 4 56 Tryz.underlying34 hi0 hz0 hz1 hz2 rfl (by omega) (.slice (some ⟨w3.heap.size, 0, none⟩) 0 0) 0 [] (by rfl) (empty_row w3 72 4 w.heap.size hs3) ⟨b, off, none⟩ l.length cp (attrRow l) (by rfl) (flat_len AttrM.cells 4 attr_len l) (((unhide HIN3).below ((Below.refl _ w3).alloc (Nat.le_refl _) _)).row) (attrs_oneCell l) hl0 (by unfold maxLen; omega) (by omega) (by simp; omega) _ rfl ?_); intro g4 c4 w4 hown4 hgrow4 hat4 hlt4; obtain ⟨HC4, y0, y1, y2, y3, hlx4, hne4⟩ := first_app (unhide HB03) hlx x0 x1 x2 x3 hown4 hgrow4 hat4; have har4 := (unhide HH).below (unhide HC4).below; have hA4 := har4.cR; have lR4 : bR < w4.heap.size := har4.lt.1; have lg4 : g < w4.heap.size := har4.lt.2; have fg4 := har4.fg; have nR4 := har4.neRg; obtain ⟨v3, d3⟩ := har4.there (unhide HIR) 3 (by omega); clear har4 hown4 hgrow4 hat4))
      go_ret
      refine ⟨rfl, ?_⟩
      rw [unhide HSET]
      exact attr_close (unhide HH) (unhide HC5) (unhide HIR) (by simp; omega)
    · obtain rfl : l = [] := List.eq_nil_of_length_eq_zero (by omega)
      simp only [List.length_nil] at hlen hmany hal HAV
      cases a
      all_goals
        go_enter Tryz.func78, Tryz.ntmps78
        set_option maxRecDepth 10000 in
        go_wp2_with (first
          | (go_at_call 67; refine ((unhide HI) _ (unhide HB1)).mono ?_; rintro e w' ⟨rfl, rfl⟩)
          | (go_at_call 80; refine (unhide HL).mono ?_; rintro e w' ⟨rfl, rfl⟩)
          | (go_at_call 102; refine (unhide HF).mono ?_; rintro e w3 ⟨rfl, hb3⟩; have HB3 := hide hb3; have hb03 := (unhide HB2).trans (hb3.mono (unhide HB2).size); have HB03 := hide hb03; have har3 := (unhide HH).below hb03; have hA3 := har3.cR; have lR3 : bR < w3.heap.size := har3.lt.1; have lg3 : g < w3.heap.size := har3.lt.2; have fg3 := har3.fg; have c33 := (har3.cells10 (unhide HIR)).2.2.2.1; rw [unhide HAV] at c33; obtain ⟨x0, x1, x2, x3⟩ := box_cells x _ hb3; have hs3 := hb03.size; have hlx : w.heap.size < w3.heap.size := (by have := hb3.size; simp at this; omega); have HIN3 := hide ((unhide HIN).below hb03); clear hb3 hb03 har3)
          | (at_builtin; refine wpList_append_lies _ (by rfl) _ _ 34 (by rfl) w.heap.size 72 i0 _ 4 56 Tryz.underlying34 hi0 hz0 hz1 hz2 rfl (by omega) (.slice (some ⟨w3.heap.size, 0, none⟩) 0 0) 0 [] (by rfl) ((empty_row w3 72 4 w.heap.size hs3).alloc _) ⟨w3.heap.size + 1, 0, none⟩ 1 1 x.cells (by rfl) (by rfl) (by have := attr_news (w3.alloc (.cells #[] 72)) x; rw [World.size_alloc] at this; exact this) (by simp [AttrM.cells, Value.oneCell']) (by omega) (by unfold maxLen; omega) (by omega) (by simp; omega) _ rfl ?_; intro g5 c5 w5 hown5 hgrow5 hat5 hlt5; have HC5 : Hid (AccA w w5 (.slice (some ⟨g5, 0, none⟩) 1 c5) ([] ++ [x])) := (show AccA w (w3.alloc (.cells #[] 72)) (.slice (some ⟨w3.heap.size, 0, none⟩) 0 0) [] from ⟨empty_row w3 72 4 w.heap.size hs3, (unhide HB03).alloc hs3 _⟩).step (ys := [x]) _ ((Below.refl _ _).alloc (Nat.le_refl _) _) (by simpa [attrRow] using hown5) hgrow5; have har5 := (unhide HH).below (unhide HC5).below; have hA5 := har5.cR; have fg5 := har5.fg; have nR5 := har5.neRg; obtain ⟨v5, d5⟩ := har5.there (unhide HIR) 3 (by omega); clear har5; clear hown5 hgrow5 hat5))
        go_ret
        refine ⟨rfl, ?_⟩
        rw [unhide HSET]
        exact attr_close (unhide HH) (unhide HC5) (unhide HIR) (by simp)
  · have hj0 : ¬ ((j : Int) < 0) := by omega
    have hjl : ∃ y, l[j]? = some y := by
      unfold idxM at hj
      split at hj
      · rename_i q hq
        have : q = j := by omega
        subst this
        obtain ⟨hlt, _⟩ := List.findIdx?_eq_some_iff_getElem.1 hq
        exact ⟨_, List.getElem?_eq_getElem hlt⟩
      · omega
    obtain ⟨y, hy⟩ := hjl
    have hjlt : j < l.length := (List.getElem?_eq_some_iff.1 hy).1
    have hl0 : 0 < l.length := by omega
    have hset : setL l x = setVal l j x.val := by rw [setL, if_neg (by omega), hj]; simp
    have HSET := hide hset
    have HY := hide hy
    rw [hj] at HF
    clear hroom hset hy
    obtain ⟨b, off, rfl⟩ := Addr.of_lt (unhide HIN) hl0
    go_enter Tryz.func78, Tryz.ntmps78
    set_option maxRecDepth 10000 in
    go_wp2_with (first
      | (go_at_call 67; refine ((unhide HI) _ (unhide HB1)).mono ?_; rintro e w' ⟨rfl, rfl⟩)
      | (go_at_call 80; refine (unhide HL).mono ?_; rintro e w' ⟨rfl, rfl⟩)
      | (go_at_call 102; refine (unhide HF).mono ?_; rintro e w3 ⟨rfl, hb3⟩; have HB3 := hide hb3; have hb03 := (unhide HB2).trans (hb3.mono (unhide HB2).size); have HB03 := hide hb03; have har3 := (unhide HH).below hb03; have hA3 := har3.cR; have lR3 : bR < w3.heap.size := har3.lt.1; have lg3 : g < w3.heap.size := har3.lt.2; have fg3 := har3.fg; have c33 := (har3.cells10 (unhide HIR)).2.2.2.1; rw [unhide HAV] at c33; obtain ⟨x0, x1, x2, x3⟩ := box_cells x _ hb3; have hs3 := hb03.size; have hlx : w.heap.size < w3.heap.size := (by have := hb3.size; simp at this; omega); have HIN3 := hide ((unhide HIN).below hb03); clear hb3 hb03 har3)
      | (at_builtin; go_must (refine wpList_append_lies _ (by rfl) _ _ 34 (by rfl) w.heap.size 72 i0 _ 4 56 Tryz.underlying34 hi0 hz0 hz1 hz2 rfl (by omega) (.slice (some ⟨w3.heap.size, 0, none⟩) 0 0) 0 [] (by rfl) (empty_row w3 72 4 w.heap.size hs3) ⟨b, off, none⟩ l.length cp (attrRow l) (by rfl) (flat_len AttrM.cells 4 attr_len l) (((unhide HIN3).below ((Below.refl _ w3).alloc (Nat.le_refl _) _)).row) (attrs_oneCell l) hl0 (by unfold maxLen; omega) (by omega) (by simp; omega) _ rfl ?_); intro g4 c4 w4 hown4 hgrow4 hat4 hlt4; obtain ⟨HC4, y0, y1, y2, y3, hlx4, hne4⟩ := first_app (unhide HB03) hlx x0 x1 x2 x3 hown4 hgrow4 hat4; have har4 := (unhide HH).below (unhide HC4).below; have hA4 := har4.cR; have lR4 : bR < w4.heap.size := har4.lt.1; have lg4 : g < w4.heap.size := har4.lt.2; have fg4 := har4.fg; have nR4 := har4.neRg; obtain ⟨v3, d3⟩ := har4.there (unhide HIR) 3 (by omega); clear har4 hown4 hgrow4 hat4; obtain ⟨hc5, fz5, u5, du5⟩ := (unhide HC4).setv (unhide HY) x.val; have HC5 := hide hc5; have neg4 : g ≠ g4 := (by have := (ownsRow_base (unhide HC4).own (k := g4) rfl).1; omega); have neR4 : bR ≠ g4 := (by have := (ownsRow_base (unhide HC4).own (k := g4) rfl).1; omega); clear hc5))
    go_ret
    refine ⟨rfl, ?_⟩
    rw [unhide HSET]
    exact attr_close (unhide HH) (unhide HC5) (unhide HIR) (by rw [setVal_len]; exact hal.1)
end
end Go.Proofs.YtnclnijlpchdnaaGreat

namespace Go.Proofs.YtnclnijlpchdnaaGreat
open Go.RowKit

section
variable {w w' : World} {base bR : Nat} {os : List OneM} {G : Nat → Prop}

set_option maxHeartbeats 2000000 in
theorem refSetAttr_err {g cap : Nat} {rs : List OneR} (h : Rf w base bR g cap rs) (i : Nat) (r : OneR) (hi : rs[i]? = some r) (x : AttrM) :
    (r.o.kind ≠ 1 → Calls Tryz.prog 78 #[.pointer (some ⟨bR, 0, none⟩), .int .i64 i, x.agg] w fun e w' => e = .returned (.int .i64 10) ∧ Below w.heap.size w w') ∧
    (r.o.kind = 1 → x.long = true → Calls Tryz.prog 78 #[.pointer (some ⟨bR, 0, none⟩), .int .i64 i, x.agg] w fun e w' => e = .returned (.int .i64 2) ∧ Below w.heap.size w w') ∧
    (r.o.kind = 1 → x.long = false → idxM (sameKey x.space x.name) r.o.attrs = -1 → ¬ r.o.attrs.length < 1024 → Calls Tryz.prog 78 #[.pointer (some ⟨bR, 0, none⟩), .int .i64 i, x.agg] w fun e w' => e = .returned (.int .i64 2) ∧ Below w.heap.size w w') := by
  have hlt : i < rs.length := (List.getElem?_eq_some_iff.1 hi).1
  have HI := hide (fun w' hb => refIs_any (h.below hb) i (w := w'))
  have q1 : hasO (osOf rs) i = true := hasO_of (osOf_get hi)
  rw [q1] at HI
  have hA := h.cR
  have hlR := h.lt.1
  have hlg := h.lt.2
  have hn := h.most
  have c0 := (h.cells10 hi).1
  have hb1 : Below w.heap.size w (w.alloc (xObj x)) := (Below.refl w.heap.size w).alloc (Nat.le_refl _) _
  have hb2 : Below w.heap.size w ((w.alloc (xObj x)).alloc (xStr x)) := hb1.alloc (by simp) _
  have HL := hide (refLong_any ((w.alloc (xObj x)).alloc (xStr x)) (w.heap.size + 1) 3 [x.pre, x.name, x.val] (by have := threeS (w.alloc (xObj x)) 9 x.pre x.name x.val; rw [World.size_alloc] at this; exact this) (by simp))
  have HF := hide (refFind_any (h.below hb2) i r hi x.space x.name)
  have HB1 := hide hb1
  have HB2 := hide hb2
  have HH := hide h
  have HIR := hide hi
  unfold AttrM.agg
  obtain ⟨a, cp, hav, hin, hal⟩ := h.attrs i r hi
  have HAV := hide hav
  generalize hl : r.o.attrs = l at *
  have e0 : [x.pre, x.name, x.val].any longS = x.long := rfl
  rw [e0] at HL
  unfold xObj xStr at HL HF HB2
  unfold xObj at HB1
  clear h hi q1 hb1 hb2 hin hav e0
  refine ⟨fun hk => ?_, fun hk hx => ?_, fun hk hx hj hmany => ?_⟩
  · have f1 : (r.o.kind != 1) = true := by simp [hk]
    clear hk
    go_enter Tryz.func78, Tryz.ntmps78
    go_wp2_with (go_at_call 67; refine ((unhide HI) _ (unhide HB1)).mono ?_; rintro e w' ⟨rfl, rfl⟩)
    go_ret
    exact ⟨rfl, unhide HB1⟩
  · rw [hk] at c0
    rw [hx] at HL
    clear hk hx
    go_enter Tryz.func78, Tryz.ntmps78
    set_option maxRecDepth 10000 in
    go_wp2_with (first
      | (go_at_call 67; refine ((unhide HI) _ (unhide HB1)).mono ?_; rintro e w' ⟨rfl, rfl⟩)
      | (go_at_call 80; refine (unhide HL).mono ?_; rintro e w' ⟨rfl, rfl⟩))
    go_ret
    exact ⟨rfl, unhide HB2⟩
  · rw [hk] at c0
    rw [hx] at HL
    rw [hj] at HF
    have hm : (1024 : Int) ≤ (l.length : Int) := by omega
    clear hk hx hj
    go_enter Tryz.func78, Tryz.ntmps78
    set_option maxRecDepth 10000 in
    go_wp2_with (first
      | (go_at_call 67; refine ((unhide HI) _ (unhide HB1)).mono ?_; rintro e w' ⟨rfl, rfl⟩)
      | (go_at_call 80; refine (unhide HL).mono ?_; rintro e w' ⟨rfl, rfl⟩)
      | (go_at_call 102; refine (unhide HF).mono ?_; rintro e w3 ⟨rfl, hb3⟩; have hb03 := (unhide HB2).trans (hb3.mono (unhide HB2).size); have HB03 := hide hb03; have har3 := (unhide HH).below hb03; have hA3 := har3.cR; have c33 := (har3.cells10 (unhide HIR)).2.2.2.1; rw [unhide HAV] at c33; clear hb3 hb03 har3))
    go_ret
    exact ⟨rfl, unhide HB03⟩

theorem refSetAttr_sim (hS : RfS w base bR os G) (k : Int) (x : AttrM) :
    Calls Tryz.prog 78 #[.pointer (some ⟨bR, 0, none⟩), .int .i64 k, x.agg] w fun e w' => e = .returned (.int .i64 (setAttrE os k x)) ∧ URf G w w' base bR (setAttrR os k x) := by
  have hS0 := hS
  obtain ⟨g, cap, rs, h, rfl, hG⟩ := hS
  cases hh : hasO (osOf rs) k with
  | false =>
    have e6 : setAttrE (osOf rs) k x = 6 := by rw [setAttrE, if_pos hh]
    have er : setAttrR (osOf rs) k x = osOf rs := by rw [setAttrR, e6, if_neg (by decide)]
    rw [e6, er]
    exact (refSetAttr_none h k x hh).mono fun e w' ⟨h1, h2⟩ => ⟨h1, hS0.upd h2⟩
  | true =>
    obtain ⟨i, o, rfl, ho⟩ := hasO_yes hh
    have hlt : i < rs.length := by rw [← osOf_len]; exact (List.getElem?_eq_some_iff.1 ho).1
    obtain ⟨r, hi⟩ : ∃ r, rs[i]? = some r := ⟨_, List.getElem?_eq_getElem hlt⟩
    have hro := osOf_get hi
    rw [ho] at hro
    cases hro
    obtain ⟨t1, t2, t3⟩ := refSetAttr_err h i r hi x
    have hat : attrsO (osOf rs) (i : Int) = r.o.attrs := by simp [attrsO, ho]
    have hE : setAttrE (osOf rs) i x = if r.o.kind ≠ 1 then 10 else if x.long then 2 else if idxM (sameKey x.space x.name) r.o.attrs = -1 ∧ ¬ r.o.attrs.length < 1024 then 2 else 0 := by
      rw [setAttrE, if_neg (by rw [hh]; decide), kindO_of ho, hat]
    by_cases hk : r.o.kind ≠ 1
    · rw [if_pos hk] at hE
      have er : setAttrR (osOf rs) i x = osOf rs := by rw [setAttrR, hE, if_neg (by decide)]
      rw [hE, er]
      exact (t1 hk).mono fun e w' ⟨h1, h2⟩ => ⟨h1, hS0.upd h2⟩
    · rw [if_neg hk] at hE
      have hk' : r.o.kind = 1 := by omega
      cases hx : x.long with
      | true =>
        rw [hx, if_pos rfl] at hE
        have er : setAttrR (osOf rs) i x = osOf rs := by rw [setAttrR, hE, if_neg (by decide)]
        rw [hE, er]
        exact (t2 hk' hx).mono fun e w' ⟨h1, h2⟩ => ⟨h1, hS0.upd h2⟩
      | false =>
        rw [hx, if_neg (by decide)] at hE
        by_cases hroom : idxM (sameKey x.space x.name) r.o.attrs = -1 ∧ ¬ r.o.attrs.length < 1024
        · rw [if_pos hroom] at hE
          have er : setAttrR (osOf rs) i x = osOf rs := by rw [setAttrR, hE, if_neg (by decide)]
          rw [hE, er]
          exact (t3 hk' hx hroom.1 hroom.2).mono fun e w' ⟨h1, h2⟩ => ⟨h1, hS0.upd h2⟩
        · rw [if_neg hroom] at hE
          have er : setAttrR (osOf rs) i x = (osOf rs).modify i fun o => { o with attrs := setL o.attrs x } := by rw [setAttrR, hE, if_pos rfl, Int.toNat_natCast]
          rw [hE, er]
          refine (refSetAttr_in h i r hi x hk' hx hroom).mono fun e w' ⟨h1, av, h2, h3, h4⟩ => ⟨h1, ?_⟩
          have := urf_set hG hi h2 h3 (fun k e => by
            rcases e with e | e
            · exact .inr (h4 k e)
            · exact .inl (.inr e))
          rw [osOf_set rs i _ (fun o => { o with attrs := setL o.attrs x }) hi rfl] at this
          exact this
end
end Go.Proofs.YtnclnijlpchdnaaGreat

namespace Go.Proofs.YtnclnijlpchdnaaGreat
open Go.RowKit

section
variable {w w' : World} {base bR : Nat} {os : List OneM} {G : Nat → Prop}

theorem AttrsIn.take {w : World} {a : Option Addr} {l : List AttrM} (h : AttrsIn w a l) (j : Nat) : AttrsIn w a (l.take j) := ⟨fun i x hi => h.cells i x (by rw [List.getElem?_take] at hi; split at hi; exact hi; cases hi)⟩
theorem AttrsIn.drop {w : World} {b off : Nat} {l : List AttrM} (h : AttrsIn w (some ⟨b, off, none⟩) l) (j : Nat) : AttrsIn w (some ⟨b, off + j * 4, none⟩) (l.drop j) := ⟨fun i x hi => by
  rw [List.getElem?_drop] at hi
  obtain ⟨b', off', e, c0, c1, c2, c3⟩ := h.cells (j + i) x hi
  simp only [Option.some.injEq, Addr.mk.injEq, and_true] at e
  obtain ⟨rfl, rfl⟩ := e
  have e4 : off + (j + i) * 4 = off + j * 4 + i * 4 := by omega
  rw [e4] at c0 c1 c2 c3
  exact ⟨b, off + j * 4, rfl, c0, c1, c2, c3⟩⟩

set_option maxHeartbeats 2000000 in
theorem refDelAttr_err {g cap : Nat} {rs : List OneR} (h : Rf w base bR g cap rs) (k space : Int) (name : ByteArray) :
    (hasO (osOf rs) k = false → Calls Tryz.prog 79 #[.pointer (some ⟨bR, 0, none⟩), .int .i64 k, .int .i64 space, .string name] w fun e w' => e = .returned (.int .i64 6) ∧ Below w.heap.size w w') ∧
    (∀ (i : Nat) r, k = (i : Int) → rs[i]? = some r → r.o.kind ≠ 1 → Calls Tryz.prog 79 #[.pointer (some ⟨bR, 0, none⟩), .int .i64 k, .int .i64 space, .string name] w fun e w' => e = .returned (.int .i64 10) ∧ Below w.heap.size w w') ∧
    (∀ (i : Nat) r, k = (i : Int) → rs[i]? = some r → r.o.kind = 1 → idxM (sameKey space name) r.o.attrs = -1 → Calls Tryz.prog 79 #[.pointer (some ⟨bR, 0, none⟩), .int .i64 k, .int .i64 space, .string name] w fun e w' => e = .returned (.int .i64 1) ∧ Below w.heap.size w w') := by
  have HI := hide (refIs_any h k)
  refine ⟨fun hk => ?_, fun i r e hi hk => ?_, fun i r e hi hk hj => ?_⟩
  · rw [hk] at HI
    clear h hk
    go_enter Tryz.func79, Tryz.ntmps79
    go_wp2_with (go_at_call 67; refine (unhide HI).mono ?_; rintro e w' ⟨rfl, rfl⟩)
    go_ret
    exact ⟨rfl, Below.refl _ _⟩
  · subst e
    have hlt : i < rs.length := (List.getElem?_eq_some_iff.1 hi).1
    have q1 : hasO (osOf rs) i = true := hasO_of (osOf_get hi)
    rw [q1] at HI
    have hA := h.cR
    have hn := h.most
    have c0 := (h.cells10 hi).1
    have f1 : (r.o.kind != 1) = true := by simp [hk]
    clear h hi hk q1
    go_enter Tryz.func79, Tryz.ntmps79
    go_wp2_with (go_at_call 67; refine (unhide HI).mono ?_; rintro e w' ⟨rfl, rfl⟩)
    go_ret
    exact ⟨rfl, Below.refl _ _⟩
  · subst e
    have hlt : i < rs.length := (List.getElem?_eq_some_iff.1 hi).1
    have q1 : hasO (osOf rs) i = true := hasO_of (osOf_get hi)
    rw [q1] at HI
    have hA := h.cR
    have hn := h.most
    have c0 := (h.cells10 hi).1
    rw [hk] at c0
    have HF := hide (refFind_any h i r hi space name)
    rw [hj] at HF
    clear h hi hk q1 hj
    go_enter Tryz.func79, Tryz.ntmps79
    go_wp2_with (first
      | (go_at_call 67; refine (unhide HI).mono ?_; rintro e w' ⟨rfl, rfl⟩)
      | (go_at_call 102; refine (unhide HF).mono ?_; rintro e w3 ⟨rfl, hb3⟩))
    go_ret
    exact ⟨rfl, hb3⟩

theorem cap_of {w : World} {base : Nat} {e : TypeId} {size g n m cap : Nat} {xs : List Value} (h : w.ownsRow base e size (.slice (some ⟨g, 0, none⟩) m cap) n xs) : n ≤ cap := by
  rcases h.2 with ⟨h', _⟩ | ⟨g', cap', cur, h', _, _, hc, _⟩
  · simp at h'
  · simp only [Value.slice.injEq, Option.some.injEq, Addr.mk.injEq, and_true] at h'
    omega

theorem erase_cut (l : List AttrM) (j : Nat) : l.eraseIdx j = l.take j ++ l.drop (j + 1) := List.eraseIdx_eq_take_drop_succ l j

theorem first_take {w w3 w4 : World} {l : List AttrM} {g4 c4 : Nat} (hb : Below w.heap.size w w3) (n : Nat) (hn : n = l.length)
    (hown : w4.ownsRow w.heap.size 72 4 (.slice (some ⟨g4, 0, none⟩) (0 + n) c4) (0 + n) ([] ++ attrRow l)) (hgrow : (w3.alloc (.cells #[] 72)).grownBy w4 (Value.slice (some ⟨w3.heap.size, 0, none⟩) 0 0).ownBlock) :
    AccA w w4 (.slice (some ⟨g4, 0, none⟩) n c4) l := by
  subst hn
  simp only [Nat.zero_add, List.nil_append] at hown
  exact ⟨hown, (hb.alloc hb.size _).grown hgrow (by have := hb.size; simp; omega) (fun k hk => by simp [Value.ownBlock] at hk; have := hb.size; omega)⟩

set_option maxHeartbeats 4000000 in
theorem refDelAttr_in {g cap : Nat} {rs : List OneR} (h : Rf w base bR g cap rs) (i : Nat) (r : OneR) (hi : rs[i]? = some r) (space : Int) (name : ByteArray) (hk : r.o.kind = 1) (j : Nat) (hj : idxM (sameKey space name) r.o.attrs = j) :
    Calls Tryz.prog 79 #[.pointer (some ⟨bR, 0, none⟩), .int .i64 i, .int .i64 space, .string name] w fun e w' => e = .returned (.int .i64 0) ∧
      ∃ av, Rf w' base bR g cap (rs.set i { r with o := { r.o with attrs := r.o.attrs.eraseIdx j }, av := av }) ∧ Mod (fun k => k = g) w w' ∧ (∀ k, blk av = some k → w.heap.size ≤ k) := by
  have hlt : i < rs.length := (List.getElem?_eq_some_iff.1 hi).1
  have HI := hide (refIs_any h i)
  have q1 : hasO (osOf rs) i = true := hasO_of (osOf_get hi)
  rw [q1] at HI
  have hA := h.cR
  have hlR := h.lt.1
  have hlg := h.lt.2
  have hn := h.most
  have c0 := (h.cells10 hi).1
  rw [hk] at c0
  have HF := hide (refFind_any h i r hi space name)
  rw [hj] at HF
  have HH := hide h
  have HIR := hide hi
  obtain ⟨a, cp, hav, hin, hal⟩ := h.attrs i r hi
  have HAV := hide hav
  obtain ⟨i0, hi0, hz0, hz1, hz2⟩ := info_parts Tryz.info72
  have hjl : j < r.o.attrs.length := by
    unfold idxM at hj
    split at hj
    · rename_i q hq
      have : q = j := by omega
      subst this
      obtain ⟨hlt, _⟩ := List.findIdx?_eq_some_iff_getElem.1 hq
      exact hlt
    · omega
  generalize hl : r.o.attrs = l at *
  obtain ⟨b, off, rfl⟩ := Addr.of_lt hin (by omega)
  have HIN := hide hin
  have hcp : l.length ≤ cp := hal.2
  have hj0 : ¬ ((j : Int) < 0) := by omega
  have HER := hide (erase_cut l j)
  have hwrap : IntKind.i64.wrap ((j : Int) + 1) = (j : Int) + 1 := by simp [IntKind.wrap, IntKind.bits, IntKind.signed]; omega
  have hjb1 : (0 : Int) ≤ (j : Int) + 1 := by omega
  have hjb2 : (j : Int) + 1 ≤ (l.length : Int) := by omega
  clear h hi hk q1 hin hav hj
  by_cases hj1 : 0 < j
  · by_cases hjn : j + 1 < l.length
    · have hcj : ¬ cp = j + 1 := by omega
      go_enter Tryz.func79, Tryz.ntmps79
      set_option maxRecDepth 10000 in
      go_wp2_with (first
        | (go_at_call 67; refine (unhide HI).mono ?_; rintro e w' ⟨rfl, rfl⟩)
        | (go_at_call 102; refine (unhide HF).mono ?_; rintro e w3 ⟨rfl, hb3⟩; have HB3 := hide hb3; have har3 := (unhide HH).below hb3; have hA3 := har3.cR; have fg3 := har3.fg; have nR3 := har3.neRg; have lR3 : bR < w3.heap.size := har3.lt.1; have lg3 : g < w3.heap.size := har3.lt.2; have c33 := (har3.cells10 (unhide HIR)).2.2.2.1; rw [unhide HAV] at c33; have hs3 := hb3.size; have HIN3 := hide ((unhide HIN).below hb3); clear hb3 har3)
        | (at_builtin; refine wpList_append_lies _ (by rfl) _ _ 34 (by rfl) w.heap.size 72 i0 _ 4 56 Tryz.underlying34 hi0 hz0 hz1 hz2 rfl (by omega) (.slice (some ⟨w3.heap.size, 0, none⟩) 0 0) 0 [] (by rfl) (empty_row w3 72 4 w.heap.size hs3) ⟨b, off, none⟩ j cp (attrRow (l.take j)) (by rfl) (by rw [show (attrRow (l.take j)).length = (l.take j).length * 4 from flat_len AttrM.cells 4 attr_len _, List.length_take]; omega) ((((unhide HIN3).take j).below ((Below.refl _ w3).alloc (Nat.le_refl _) _)).row) (attrs_oneCell _) hj1 (by unfold maxLen; omega) (by omega) (by simp; omega) _ rfl ?_; intro g4 c4 w4 hown4 hgrow4 hat4 hlt4; have HC4 := hide (first_take (unhide HB3) j (by rw [List.length_take]; omega) hown4 hgrow4); have hc4 : j ≤ c4 := (by have := cap_of (unhide HC4).own; rw [List.length_take] at this; omega); have har4 := (unhide HH).below (unhide HC4).below; have hA4 := har4.cR; have lR4 : bR < w4.heap.size := har4.lt.1; have lg4 : g < w4.heap.size := har4.lt.2; have fg4 := har4.fg; have nR4 := har4.neRg; have c34 := (har4.cells10 (unhide HIR)).2.2.2.1; rw [unhide HAV] at c34; have HIN4 := hide ((unhide HIN).below (unhide HC4).below); clear har4; clear hown4 hgrow4 hat4))
      set_option maxRecDepth 10000 in
      go_region_law ((refine step_append_lies _ (by rfl) _ _ _ (by rfl) w.heap.size 72 i0 _ 4 56 Tryz.underlying34 hi0 hz0 hz1 hz2 rfl (by omega) (.slice (some ⟨g4, 0, none⟩) j c4) j (attrRow (l.take j)) (by rfl) (by have := (unhide HC4).own.drew; rw [List.length_take, Nat.min_eq_left (by omega)] at this; exact this) ⟨b, off + (j + 1) * 4, none⟩ (l.length - (j + 1)) (cp - (j + 1)) (attrRow (l.drop (j + 1))) (by rfl) (by rw [show (attrRow (l.drop (j + 1))).length = (l.drop (j + 1)).length * 4 from flat_len AttrM.cells 4 attr_len _, List.length_drop]) (((unhide HIN4).drop (j + 1)).row) (attrs_oneCell _) (by omega) (by unfold maxLen; omega) (by omega) (unhide HC4).below.size _ rfl ?_; intro g5 c5 w5 hown5 hgrow5 hat5 hlt5; have HC5 : Hid (AccA w w5 (.slice (some ⟨g5, 0, none⟩) (j + (l.length - (j + 1))) c5) (l.take j ++ l.drop (j + 1))) := (by have := (unhide HC4).step (ys := l.drop (j + 1)) (g1 := g5) (c1 := c5) (w1 := w5) w4.drew (Below.refl _ w4).drew (by rw [List.length_take, List.length_drop, Nat.min_eq_left (by omega)]; exact hown5) hgrow5; rw [List.length_take, List.length_drop, Nat.min_eq_left (by omega)] at this; exact this); have har5 := (unhide HH).below (unhide HC5).below; have hA5 := har5.cR; have fg5 := har5.fg; have nR5 := har5.neRg; obtain ⟨v5, d5⟩ := har5.there (unhide HIR) 3 (by omega); clear har5; clear hown5 hgrow5 hat5))
      all_goals go_wp2
      all_goals go_ret
      all_goals refine ⟨rfl, ?_⟩
      all_goals rw [unhide HER]
      all_goals exact attr_close (unhide HH) (unhide HC5) (unhide HIR) (by simp; omega)
    · have hlz : l.length - (j + 1) = 0 := by omega
      have hdz : l.drop (j + 1) = [] := List.drop_eq_nil_of_le (by omega)
      rw [hdz, List.append_nil] at HER
      clear hdz
      by_cases hcj : cp = j + 1
      · obtain rfl : cp = j + 1 := hcj
        go_enter Tryz.func79, Tryz.ntmps79
        set_option maxRecDepth 10000 in
        go_wp2_with (first
          | (go_at_call 67; refine (unhide HI).mono ?_; rintro e w' ⟨rfl, rfl⟩)
          | (go_at_call 102; refine (unhide HF).mono ?_; rintro e w3 ⟨rfl, hb3⟩; have HB3 := hide hb3; have har3 := (unhide HH).below hb3; have hA3 := har3.cR; have fg3 := har3.fg; have nR3 := har3.neRg; have lR3 : bR < w3.heap.size := har3.lt.1; have lg3 : g < w3.heap.size := har3.lt.2; have c33 := (har3.cells10 (unhide HIR)).2.2.2.1; rw [unhide HAV] at c33; have hs3 := hb3.size; have HIN3 := hide ((unhide HIN).below hb3); clear hb3 har3)
          | (at_builtin; refine wpList_append_lies _ (by rfl) _ _ 34 (by rfl) w.heap.size 72 i0 _ 4 56 Tryz.underlying34 hi0 hz0 hz1 hz2 rfl (by omega) (.slice (some ⟨w3.heap.size, 0, none⟩) 0 0) 0 [] (by rfl) (empty_row w3 72 4 w.heap.size hs3) ⟨b, off, none⟩ j (j + 1) (attrRow (l.take j)) (by rfl) (by rw [show (attrRow (l.take j)).length = (l.take j).length * 4 from flat_len AttrM.cells 4 attr_len _, List.length_take]; omega) ((((unhide HIN3).take j).below ((Below.refl _ w3).alloc (Nat.le_refl _) _)).row) (attrs_oneCell _) hj1 (by unfold maxLen; omega) (by omega) (by simp; omega) _ rfl ?_; intro g4 c4 w4 hown4 hgrow4 hat4 hlt4; have HC4 := hide (first_take (unhide HB3) j (by rw [List.length_take]; omega) hown4 hgrow4); have hc4 : j ≤ c4 := (by have := cap_of (unhide HC4).own; rw [List.length_take] at this; omega); have har4 := (unhide HH).below (unhide HC4).below; have hA4 := har4.cR; have lR4 : bR < w4.heap.size := har4.lt.1; have lg4 : g < w4.heap.size := har4.lt.2; have fg4 := har4.fg; have nR4 := har4.neRg; have c34 := (har4.cells10 (unhide HIR)).2.2.2.1; rw [unhide HAV] at c34; have HIN4 := hide ((unhide HIN).below (unhide HC4).below); clear har4; clear hown4 hgrow4 hat4))
        set_option maxRecDepth 10000 in
        go_region
        all_goals go_wp2
        all_goals go_ret
        all_goals refine ⟨rfl, ?_⟩
        all_goals rw [unhide HER]
        all_goals exact attr_close (unhide HH) (⟨by have := (unhide HC4).own.drew; rw [List.length_take, Nat.min_eq_left (by omega)] at this ⊢; exact this, (unhide HC4).below.drew⟩) (unhide HIR) (by simp; omega)
      · have hcj' : ¬ j + 1 = cp := fun e => hcj e.symm
        go_enter Tryz.func79, Tryz.ntmps79
        set_option maxRecDepth 10000 in
        go_wp2_with (first
          | (go_at_call 67; refine (unhide HI).mono ?_; rintro e w' ⟨rfl, rfl⟩)
          | (go_at_call 102; refine (unhide HF).mono ?_; rintro e w3 ⟨rfl, hb3⟩; have HB3 := hide hb3; have har3 := (unhide HH).below hb3; have hA3 := har3.cR; have fg3 := har3.fg; have nR3 := har3.neRg; have lR3 : bR < w3.heap.size := har3.lt.1; have lg3 : g < w3.heap.size := har3.lt.2; have c33 := (har3.cells10 (unhide HIR)).2.2.2.1; rw [unhide HAV] at c33; have hs3 := hb3.size; have HIN3 := hide ((unhide HIN).below hb3); clear hb3 har3)
          | (at_builtin; refine wpList_append_lies _ (by rfl) _ _ 34 (by rfl) w.heap.size 72 i0 _ 4 56 Tryz.underlying34 hi0 hz0 hz1 hz2 rfl (by omega) (.slice (some ⟨w3.heap.size, 0, none⟩) 0 0) 0 [] (by rfl) (empty_row w3 72 4 w.heap.size hs3) ⟨b, off, none⟩ j cp (attrRow (l.take j)) (by rfl) (by rw [show (attrRow (l.take j)).length = (l.take j).length * 4 from flat_len AttrM.cells 4 attr_len _, List.length_take]; omega) ((((unhide HIN3).take j).below ((Below.refl _ w3).alloc (Nat.le_refl _) _)).row) (attrs_oneCell _) hj1 (by unfold maxLen; omega) (by omega) (by simp; omega) _ rfl ?_; intro g4 c4 w4 hown4 hgrow4 hat4 hlt4; have HC4 := hide (first_take (unhide HB3) j (by rw [List.length_take]; omega) hown4 hgrow4); have hc4 : j ≤ c4 := (by have := cap_of (unhide HC4).own; rw [List.length_take] at this; omega); have har4 := (unhide HH).below (unhide HC4).below; have hA4 := har4.cR; have lR4 : bR < w4.heap.size := har4.lt.1; have lg4 : g < w4.heap.size := har4.lt.2; have fg4 := har4.fg; have nR4 := har4.neRg; have c34 := (har4.cells10 (unhide HIR)).2.2.2.1; rw [unhide HAV] at c34; have HIN4 := hide ((unhide HIN).below (unhide HC4).below); clear har4; clear hown4 hgrow4 hat4))
        set_option maxRecDepth 10000 in
        go_region
        all_goals go_wp2
        all_goals go_ret
        all_goals refine ⟨rfl, ?_⟩
        all_goals rw [unhide HER]
        all_goals exact attr_close (unhide HH) (⟨by have := (unhide HC4).own.drew; rw [List.length_take, Nat.min_eq_left (by omega)] at this ⊢; exact this, (unhide HC4).below.drew⟩) (unhide HIR) (by simp; omega)
  · obtain rfl : j = 0 := by omega
    have hw1 : IntKind.i64.wrap 1 = 1 := by decide
    have hle1 : (1 : Int) ≤ (l.length : Int) := by omega
    by_cases hjn : 1 < l.length
    · have hcj : ¬ cp = 1 := by omega
      go_enter Tryz.func79, Tryz.ntmps79
      set_option maxRecDepth 10000 in
      go_wp2_with (first
        | (go_at_call 67; refine (unhide HI).mono ?_; rintro e w' ⟨rfl, rfl⟩)
        | (go_at_call 102; refine (unhide HF).mono ?_; rintro e w3 ⟨rfl, hb3⟩; have HB3 := hide hb3; have har3 := (unhide HH).below hb3; have hA3 := har3.cR; have fg3 := har3.fg; have nR3 := har3.neRg; have lR3 : bR < w3.heap.size := har3.lt.1; have lg3 : g < w3.heap.size := har3.lt.2; have c33 := (har3.cells10 (unhide HIR)).2.2.2.1; rw [unhide HAV] at c33; have hs3 := hb3.size; have HIN3 := hide ((unhide HIN).below hb3); clear hb3 har3))
      set_option maxRecDepth 10000 in
      go_region_law ((refine step_append_lies _ (by rfl) _ _ _ (by rfl) w.heap.size 72 i0 _ 4 56 Tryz.underlying34 hi0 hz0 hz1 hz2 rfl (by omega) (.slice (some ⟨w3.heap.size, 0, none⟩) 0 0) 0 [] (by rfl) (empty_row w3 72 4 w.heap.size hs3).drew ⟨b, off + 4, none⟩ (l.length - 1) (cp - 1) (attrRow (l.drop 1)) (by rfl) (by rw [show (attrRow (l.drop 1)).length = (l.drop 1).length * 4 from flat_len AttrM.cells 4 attr_len _, List.length_drop]) (by have := (((unhide HIN3).drop 1).below ((Below.refl _ w3).alloc (Nat.le_refl _) (.cells #[] 72)).drew).row; simpa using this) (attrs_oneCell _) (by omega) (by unfold maxLen; omega) (by omega) (by simp; omega) _ rfl ?_; intro g5 c5 w5 hown5 hgrow5 hat5 hlt5; have HC5 : Hid (AccA w w5 (.slice (some ⟨g5, 0, none⟩) (l.length - 1) c5) (l.drop 1)) := ⟨(by rw [List.length_drop]; simpa using hown5), (((unhide HB3).alloc hs3 _).drew).grown hgrow5 (by simp; omega) (fun k hk => by simp [Value.ownBlock] at hk; omega)⟩; have har5 := (unhide HH).below (unhide HC5).below; have hA5 := har5.cR; have fg5 := har5.fg; have nR5 := har5.neRg; obtain ⟨v5, d5⟩ := har5.there (unhide HIR) 3 (by omega); clear har5; clear hown5 hgrow5 hat5))
      all_goals go_wp2
      all_goals go_ret
      all_goals refine ⟨rfl, ?_⟩
      all_goals rw [unhide HER]
      all_goals exact attr_close (unhide HH) (unhide HC5) (unhide HIR) (by simp; omega)
    · have hl1 : l.length = 1 := by omega
      have hdz : l.drop (0 + 1) = [] := List.drop_eq_nil_of_le (by omega)
      rw [hdz, List.append_nil, List.take_zero] at HER
      clear hdz
      by_cases hcj : cp = 1
      · subst hcj
        go_enter Tryz.func79, Tryz.ntmps79
        set_option maxRecDepth 10000 in
        go_wp2_with (first
          | (go_at_call 67; refine (unhide HI).mono ?_; rintro e w' ⟨rfl, rfl⟩)
          | (go_at_call 102; refine (unhide HF).mono ?_; rintro e w3 ⟨rfl, hb3⟩; have HB3 := hide hb3; have har3 := (unhide HH).below hb3; have hA3 := har3.cR; have fg3 := har3.fg; have nR3 := har3.neRg; have lR3 : bR < w3.heap.size := har3.lt.1; have lg3 : g < w3.heap.size := har3.lt.2; have c33 := (har3.cells10 (unhide HIR)).2.2.2.1; rw [unhide HAV] at c33; have hs3 := hb3.size; have HIN3 := hide ((unhide HIN).below hb3); clear hb3 har3))
        set_option maxRecDepth 10000 in
        go_region
        all_goals go_wp2
        all_goals go_ret
        all_goals refine ⟨rfl, ?_⟩
        all_goals rw [unhide HER]
        all_goals (
          have hc := attr_close (unhide HH) (xs := []) (⟨(empty_row w3 72 4 w.heap.size hs3).drew, ((unhide HB3).alloc hs3 _).drew⟩ : AccA w (w3.alloc (.cells #[] 72)).drew (.slice (some ⟨w3.heap.size, 0, none⟩) 0 0) []) (unhide HIR) (by simp)
          simp only [World.setCell_drew, World.setCell_alloc_past _ _ _ _ lg3] at hc
          exact hc)
      · have hcj' : ¬ 1 = cp := fun e => hcj e.symm
        go_enter Tryz.func79, Tryz.ntmps79
        set_option maxRecDepth 10000 in
        go_wp2_with (first
          | (go_at_call 67; refine (unhide HI).mono ?_; rintro e w' ⟨rfl, rfl⟩)
          | (go_at_call 102; refine (unhide HF).mono ?_; rintro e w3 ⟨rfl, hb3⟩; have HB3 := hide hb3; have har3 := (unhide HH).below hb3; have hA3 := har3.cR; have fg3 := har3.fg; have nR3 := har3.neRg; have lR3 : bR < w3.heap.size := har3.lt.1; have lg3 : g < w3.heap.size := har3.lt.2; have c33 := (har3.cells10 (unhide HIR)).2.2.2.1; rw [unhide HAV] at c33; have hs3 := hb3.size; have HIN3 := hide ((unhide HIN).below hb3); clear hb3 har3))
        set_option maxRecDepth 10000 in
        go_region
        all_goals go_wp2
        all_goals go_ret
        all_goals refine ⟨rfl, ?_⟩
        all_goals rw [unhide HER]
        all_goals (
          have hc := attr_close (unhide HH) (xs := []) (⟨(empty_row w3 72 4 w.heap.size hs3).drew, ((unhide HB3).alloc hs3 _).drew⟩ : AccA w (w3.alloc (.cells #[] 72)).drew (.slice (some ⟨w3.heap.size, 0, none⟩) 0 0) []) (unhide HIR) (by simp)
          simp only [World.setCell_drew, World.setCell_alloc_past _ _ _ _ lg3] at hc
          exact hc)

theorem refDelAttr_sim (hS : RfS w base bR os G) (k space : Int) (name : ByteArray) :
    Calls Tryz.prog 79 #[.pointer (some ⟨bR, 0, none⟩), .int .i64 k, .int .i64 space, .string name] w fun e w' => e = .returned (.int .i64 (delAttrE os k space name)) ∧ URf G w w' base bR (delAttrR os k space name) := by
  have hS0 := hS
  obtain ⟨g, cap, rs, h, rfl, hG⟩ := hS
  obtain ⟨t1, t2, t3⟩ := refDelAttr_err h k space name
  cases hh : hasO (osOf rs) k with
  | false =>
    have e6 : delAttrE (osOf rs) k space name = 6 := by rw [delAttrE, if_pos hh]
    have er : delAttrR (osOf rs) k space name = osOf rs := by rw [delAttrR, e6, if_neg (by decide)]
    rw [e6, er]
    exact (t1 hh).mono fun e w' ⟨h1, h2⟩ => ⟨h1, hS0.upd h2⟩
  | true =>
    obtain ⟨i, o, rfl, ho⟩ := hasO_yes hh
    have hlt : i < rs.length := by rw [← osOf_len]; exact (List.getElem?_eq_some_iff.1 ho).1
    obtain ⟨r, hi⟩ : ∃ r, rs[i]? = some r := ⟨_, List.getElem?_eq_getElem hlt⟩
    have hro := osOf_get hi
    rw [ho] at hro
    cases hro
    have hat : attrsO (osOf rs) (i : Int) = r.o.attrs := by simp [attrsO, ho]
    have hE : delAttrE (osOf rs) i space name = if r.o.kind ≠ 1 then 10 else if idxM (sameKey space name) r.o.attrs = -1 then 1 else 0 := by
      rw [delAttrE, if_neg (by rw [hh]; decide), kindO_of ho, hat]
    by_cases hk : r.o.kind ≠ 1
    · rw [if_pos hk] at hE
      have er : delAttrR (osOf rs) i space name = osOf rs := by rw [delAttrR, hE, if_neg (by decide)]
      rw [hE, er]
      exact (t2 i r rfl hi hk).mono fun e w' ⟨h1, h2⟩ => ⟨h1, hS0.upd h2⟩
    · rw [if_neg hk] at hE
      have hk' : r.o.kind = 1 := by omega
      rcases idxM_or (sameKey space name) r.o.attrs with hj | ⟨j, hj⟩
      · rw [if_pos hj] at hE
        have er : delAttrR (osOf rs) i space name = osOf rs := by rw [delAttrR, hE, if_neg (by decide)]
        rw [hE, er]
        exact (t3 i r rfl hi hk' hj).mono fun e w' ⟨h1, h2⟩ => ⟨h1, hS0.upd h2⟩
      · rw [if_neg (by omega)] at hE
        have er : delAttrR (osOf rs) i space name = (osOf rs).modify i fun o => { o with attrs := o.attrs.eraseIdx (idxM (sameKey space name) o.attrs).toNat } := by rw [delAttrR, hE, if_pos rfl, Int.toNat_natCast]
        rw [hE, er]
        refine (refDelAttr_in h i r hi space name hk' j hj).mono fun e w' ⟨h1, av, h2, h3, h4⟩ => ⟨h1, ?_⟩
        have := urf_set hG hi h2 h3 (fun k e => by
          rcases e with e | e
          · exact .inr (h4 k e)
          · exact .inl (.inr e))
        rw [osOf_set rs i _ (fun o => { o with attrs := o.attrs.eraseIdx (idxM (sameKey space name) o.attrs).toNat }) hi (by simp [hj])] at this
        exact this
end
end Go.Proofs.YtnclnijlpchdnaaGreat
