/-
  The document's own arena: what Link refuses. The document's own arena: Link, told by plain nodes; a child is taken out. The document's own arena: a child is taken out.
-/
import Derived.Test.YtlbkoafeedlfaaaSBat
namespace Go.Proofs.Ytlbkoafeedlfaaa
open Go.RowKit

section
variable {w w' : World} {base bR g cap : Nat} {rs : List OneR}

theorem refLink_none (h : Rf w base bR g cap rs) (p c b : Int) (hno : (hasO (osOf rs) p && hasO (osOf rs) c && (b == -1 || hasO (osOf rs) b)) = false) :
    Calls Try.prog 38 #[.pointer (some ⟨bR, 0, none⟩), .int .i64 p, .int .i64 c, .int .i64 b] w fun e w' => e = .returned (.int .i64 6) ∧ w = w' := by
  have HI := hide (fun k => refIs_any h k)
  clear h
  cases h1 : hasO (osOf rs) p with
  | false =>
    clear hno
    go_enter Try.func38, Try.ntmps38
    go_wp2_with (go_at_call 79; refine ((unhide HI) _).mono ?_; rintro e w' ⟨rfl, rfl⟩)
    go_ret
    exact ⟨rfl, rfl⟩
  | true =>
    cases h2 : hasO (osOf rs) c with
    | false =>
      clear hno
      go_enter Try.func38, Try.ntmps38
      go_wp2_with (go_at_call 79; refine ((unhide HI) _).mono ?_; rintro e w' ⟨rfl, rfl⟩)
      go_ret
      exact ⟨rfl, rfl⟩
    | true =>
      rw [h1, h2] at hno
      simp only [Bool.and_self, Bool.true_and, Bool.or_eq_false_iff] at hno
      have h3 : (b != -1) = true := by rw [bne_iff_ne]; simpa using hno.1
      have h4 := hno.2
      clear hno
      go_enter Try.func38, Try.ntmps38
      go_wp2_with (go_at_call 79; refine ((unhide HI) _).mono ?_; rintro e w' ⟨rfl, rfl⟩)
      go_ret
      exact ⟨rfl, rfl⟩

/-- The first question is answered: all three are nodes. -/
structure Three (rs : List OneR) (p c : Nat) (b : Int) (rp rc : OneR) : Prop where
  hp : rs[p]? = some rp
  hc : rs[c]? = some rc
  hb : b = -1 ∨ hasO (osOf rs) b = true

set_option maxHeartbeats 1000000 in
theorem refLink_kind (h : Rf w base bR g cap rs) {p c : Nat} {b : Int} {rp rc : OneR} (h3 : Three rs p c b rp rc) (hk : parentM rp.o.kind = false ∨ rc.o.kind = 0 ∨ rc.o.kind = 5) :
    Calls Try.prog 38 #[.pointer (some ⟨bR, 0, none⟩), .int .i64 p, .int .i64 c, .int .i64 b] w fun e w' => e = .returned (.int .i64 10) ∧ Below w.heap.size w w' := by
  have hlc : c < rs.length := (List.getElem?_eq_some_iff.1 h3.hc).1
  have HI := hide (fun k => refIs_any h k)
  have HP := hide (refParent_any h p rp h3.hp)
  have i1 : hasO (osOf rs) p = true := hasO_of (osOf_get h3.hp)
  have i2 : hasO (osOf rs) c = true := hasO_of (osOf_get h3.hc)
  have hA := h.cR
  have hn := h.most
  have c0 := (h.cells10 h3.hc).1
  have hbb : (b != -1) = false ∨ ((b != -1) = true ∧ hasO (osOf rs) b = true) := by
    rcases h3.hb with e | e
    · exact .inl (by simp [e])
    · by_cases e1 : b = -1
      · exact .inl (by simp [e1])
      · exact .inr ⟨by rw [bne_iff_ne]; exact e1, e⟩
  clear h h3
  cases hpk : parentM rp.o.kind with
  | false =>
    rw [hpk] at HP
    clear hk
    rcases hbb with hb1 | ⟨hb1, hb2⟩
    all_goals
      go_enter Try.func38, Try.ntmps38
      go_wp2_with (first
        | (go_at_call 79; refine ((unhide HI) _).mono ?_; rintro e w' ⟨rfl, rfl⟩)
        | (go_at_call 93; refine (unhide HP).mono ?_; rintro e w' ⟨rfl, rfl⟩))
      go_ret
      exact ⟨rfl, Below.refl _ _⟩
  | true =>
    rw [hpk] at HP hk
    simp only [Bool.true_eq_false, false_or] at hk
    by_cases hk0 : rc.o.kind = 0
    · rw [hk0] at c0
      clear hk hk0
      rcases hbb with hb1 | ⟨hb1, hb2⟩
      all_goals
        go_enter Try.func38, Try.ntmps38
        go_wp2_with (first
          | (go_at_call 79; refine ((unhide HI) _).mono ?_; rintro e w' ⟨rfl, rfl⟩)
          | (go_at_call 93; refine (unhide HP).mono ?_; rintro e w' ⟨rfl, rfl⟩))
        go_ret
        exact ⟨rfl, Below.refl _ _⟩
    · have hk5 : rc.o.kind = 5 := hk.resolve_left hk0
      rw [hk5] at c0
      clear hk hk0 hk5
      rcases hbb with hb1 | ⟨hb1, hb2⟩
      all_goals
        go_enter Try.func38, Try.ntmps38
        go_wp2_with (first
          | (go_at_call 79; refine ((unhide HI) _).mono ?_; rintro e w' ⟨rfl, rfl⟩)
          | (go_at_call 93; refine (unhide HP).mono ?_; rintro e w' ⟨rfl, rfl⟩))
        go_ret
        exact ⟨rfl, Below.refl _ _⟩

set_option maxHeartbeats 1000000 in
theorem refLink_linked (h : Rf w base bR g cap rs) {p c : Nat} {b : Int} {rp rc : OneR} (h3 : Three rs p c b rp rc) (hends : ∀ i, i < (osOf rs).length → ∃ path, PathOf (upO (osOf rs)) i path) (hk : parentM rp.o.kind = true) (hk0 : rc.o.kind ≠ 0) (hk5 : rc.o.kind ≠ 5)
    (hl : rc.o.up ≠ -1 ∨ aboveO (osOf rs) p c = true) :
    Calls Try.prog 38 #[.pointer (some ⟨bR, 0, none⟩), .int .i64 p, .int .i64 c, .int .i64 b] w fun e w' => e = .returned (.int .i64 11) ∧ Below w.heap.size w w' := by
  have hlc : c < rs.length := (List.getElem?_eq_some_iff.1 h3.hc).1
  have HI := hide (fun k => refIs_any h k)
  have HP := hide (refParent_any h p rp h3.hp)
  rw [hk] at HP
  have HAB := hide (refAbove_any h hends p c)
  have i1 : hasO (osOf rs) p = true := hasO_of (osOf_get h3.hp)
  have i2 : hasO (osOf rs) c = true := hasO_of (osOf_get h3.hc)
  have hA := h.cR
  have hn := h.most
  have c0 := (h.cells10 h3.hc).1
  have c8 := (h.cells10 h3.hc).2.2.2.2.2.2.2.2.1
  have f0 : (rc.o.kind == 0) = false := beq_eq_false_iff_ne.2 hk0
  have f5 : (rc.o.kind == 5) = false := beq_eq_false_iff_ne.2 hk5
  have hbb : (b != -1) = false ∨ ((b != -1) = true ∧ hasO (osOf rs) b = true) := by
    rcases h3.hb with e | e
    · exact .inl (by simp [e])
    · by_cases e1 : b = -1
      · exact .inl (by simp [e1])
      · exact .inr ⟨by rw [bne_iff_ne]; exact e1, e⟩
  clear h h3 hends hk hk0 hk5
  by_cases hu : rc.o.up = -1
  · have hab : aboveO (osOf rs) p c = true := hl.resolve_left (by simpa using hu)
    rw [hab] at HAB
    rw [hu] at c8
    clear hl hu hab
    rcases hbb with hb1 | ⟨hb1, hb2⟩
    all_goals
      go_enter Try.func38, Try.ntmps38
      go_wp2_with (first
        | (go_at_call 79; refine ((unhide HI) _).mono ?_; rintro e w' ⟨rfl, rfl⟩)
        | (go_at_call 93; refine (unhide HP).mono ?_; rintro e w' ⟨rfl, rfl⟩)
        | (go_at_call 94; refine (unhide HAB).mono ?_; rintro e w' ⟨rfl, rfl⟩))
      go_ret
      exact ⟨rfl, Below.refl _ _⟩
  · have hu1 : (rc.o.up != -1) = true := by rw [bne_iff_ne]; exact hu
    clear hl
    rcases hbb with hb1 | ⟨hb1, hb2⟩
    all_goals
      go_enter Try.func38, Try.ntmps38
      go_wp2_with (first
        | (go_at_call 79; refine ((unhide HI) _).mono ?_; rintro e w' ⟨rfl, rfl⟩)
        | (go_at_call 93; refine (unhide HP).mono ?_; rintro e w' ⟨rfl, rfl⟩)
        | (go_at_call 94; refine (unhide HAB).mono ?_; rintro e w' ⟨rfl, rfl⟩))
      go_ret
      exact ⟨rfl, Below.refl _ _⟩

set_option maxHeartbeats 1000000 in
theorem refLink_arg (h : Rf w base bR g cap rs) {p c : Nat} {b : Int} {rp rc : OneR} (h3 : Three rs p c b rp rc) (hends : ∀ i, i < (osOf rs).length → ∃ path, PathOf (upO (osOf rs)) i path) (hk : parentM rp.o.kind = true) (hk0 : rc.o.kind ≠ 0) (hk5 : rc.o.kind ≠ 5)
    (hu : rc.o.up = -1) (hab : aboveO (osOf rs) p c = false) (hb1 : b ≠ -1) (hbu : upIO (osOf rs) b ≠ p) :
    Calls Try.prog 38 #[.pointer (some ⟨bR, 0, none⟩), .int .i64 p, .int .i64 c, .int .i64 b] w fun e w' => e = .returned (.int .i64 1) ∧ Below w.heap.size w w' := by
  have hlc : c < rs.length := (List.getElem?_eq_some_iff.1 h3.hc).1
  have HI := hide (fun k => refIs_any h k)
  have HP := hide (refParent_any h p rp h3.hp)
  rw [hk] at HP
  have HAB := hide (refAbove_any h hends p c)
  rw [hab] at HAB
  have i1 : hasO (osOf rs) p = true := hasO_of (osOf_get h3.hp)
  have i2 : hasO (osOf rs) c = true := hasO_of (osOf_get h3.hc)
  have hA := h.cR
  have hn := h.most
  have c0 := (h.cells10 h3.hc).1
  have c8 := (h.cells10 h3.hc).2.2.2.2.2.2.2.2.1
  rw [hu] at c8
  have f0 : (rc.o.kind == 0) = false := beq_eq_false_iff_ne.2 hk0
  have f5 : (rc.o.kind == 5) = false := beq_eq_false_iff_ne.2 hk5
  have hb2 : hasO (osOf rs) b = true := h3.hb.resolve_left hb1
  obtain ⟨bi, ob, rfl, hob⟩ := hasO_yes hb2
  have hbl : bi < rs.length := by rw [← osOf_len]; exact (List.getElem?_eq_some_iff.1 hob).1
  obtain ⟨rb, hrb⟩ : ∃ r, rs[bi]? = some r := ⟨_, List.getElem?_eq_getElem hbl⟩
  have hro := osOf_get hrb
  rw [hob] at hro
  cases hro
  have c8b := (h.cells10 hrb).2.2.2.2.2.2.2.2.1
  rw [upIO_of hob] at hbu
  have hbn : ((bi : Int) != -1) = true := by rw [bne_iff_ne]; exact hb1
  have hpp : (rb.o.up != (p : Int)) = true := by rw [bne_iff_ne]; exact hbu
  clear h h3 hends hk hk0 hk5 hu hab hbu hob hrb hb1
  go_enter Try.func38, Try.ntmps38
  go_wp2_with (first
    | (go_at_call 79; refine ((unhide HI) _).mono ?_; rintro e w' ⟨rfl, rfl⟩)
    | (go_at_call 93; refine (unhide HP).mono ?_; rintro e w' ⟨rfl, rfl⟩)
    | (go_at_call 94; refine (unhide HAB).mono ?_; rintro e w' ⟨rfl, rfl⟩))
  go_ret
  exact ⟨rfl, Below.refl _ _⟩
end
end Go.Proofs.Ytlbkoafeedlfaaa

namespace Go.Proofs.Ytlbkoafeedlfaaa
open Go.RowKit

section
variable {w w' : World} {base bR : Nat} {os : List OneM} {G : Nat → Prop} {ns : List NodeM}

/-- Two nodes told anew. -/
theorem urf_two {g cap : Nat} {rs : List OneR} {p c : Nat} {rp rc : OneR} {ks : List Nat} {kv : Value} {x : Int} (hG : ∀ k, G k ↔ footR bR g rs k) (hp : rs[p]? = some rp) (hc : rs[c]? = some rc)
    (h : Rf w' base bR g cap ((rs.set p { rp with o := { rp.o with kids := ks }, kv := kv }).set c { rc with o := { rc.o with up := x } })) (hm : Mod (fun k => k = g) w w') (hkv : ∀ k, blk kv = some k → w.heap.size ≤ k) :
    URf G w w' base bR (osOf ((rs.set p { rp with o := { rp.o with kids := ks }, kv := kv }).set c { rc with o := { rc.o with up := x } })) := by
  refine ⟨_, ⟨g, cap, _, h, rfl, fun k => Iff.rfl⟩, hm.mono (fun k _ hk => (hG k).2 (.inr (.inl hk))), fun k hk => ?_⟩
  rcases hk with hk | hk | ⟨y, hy, hk⟩
  · exact .inl ((hG k).2 (.inl hk))
  · exact .inl ((hG k).2 (.inr (.inl hk)))
  · rcases List.mem_or_eq_of_mem_set hy with hy | rfl
    · rcases List.mem_or_eq_of_mem_set hy with hy | rfl
      · exact .inl ((hG k).2 (.inr (.inr ⟨y, hy, hk⟩)))
      · rcases hk with hk | hk
        · exact .inl ((hG k).2 (.inr (.inr ⟨rp, List.mem_of_getElem? hp, .inl hk⟩)))
        · exact .inr (hkv k hk)
    · exact .inl ((hG k).2 (.inr (.inr ⟨rc, List.mem_of_getElem? hc, hk⟩)))

theorem osOf_two {rs : List OneR} {p c : Nat} {rp rc : OneR} (hp : rs[p]? = some rp) (hc : rs[c]? = some rc) (hpc : p ≠ c) (kv : Value) (x : Int) (f : List Nat → List Nat) :
    osOf ((rs.set p { rp with o := { rp.o with kids := f rp.o.kids }, kv := kv }).set c { rc with o := { rc.o with up := x } }) = ((osOf rs).modify p fun o => { o with kids := f o.kids }).modify c fun o => { o with up := x } := by
  rw [osOf_set _ c _ (fun o => { o with up := x }) (by rw [List.getElem?_set_ne hpc]; exact hc) rfl, osOf_set rs p _ (fun o => { o with kids := f o.kids }) hp rfl]

theorem Sim.kids_lt {os : List OneM} (hs : Sim ns os) {p : Nat} {op : OneM} (hop : os[p]? = some op) {c : Nat} (hc : c < os.length) (hn : c ∉ op.kids) : op.kids.length + 1 ≤ os.length := by
  have hK := hs.kids p op hop
  have hnd : (c :: op.kids).Nodup := List.nodup_cons.2 ⟨hn, hK.nodup⟩
  have := List.Nodup.length_le_of_subset hnd (l₂ := List.range os.length) (fun x hx => by
    rw [List.mem_range]
    rcases List.mem_cons.1 hx with rfl | hx
    · exact hc
    · have := hK.mem x hx; rw [hs.len] at this; exact this)
  simpa using this

theorem refLink_sim (hS : RfS w base bR os G) (hs : Sim ns os) (p c b : Int) :
    Calls Try.prog 38 #[.pointer (some ⟨bR, 0, none⟩), .int .i64 p, .int .i64 c, .int .i64 b] w fun e w' => e = .returned (.int .i64 (linkE os p c b)) ∧ URf G w w' base bR (linkR os p c b) := by
  have hS0 := hS
  obtain ⟨g, cap, rs, h, rfl, hG⟩ := hS
  have keep : ∀ {e : Int}, linkE (osOf rs) p c b = e → e ≠ 0 → linkR (osOf rs) p c b = osOf rs := fun {e} he hne => by rw [linkR, he, if_neg hne]
  by_cases hno : (hasO (osOf rs) p && hasO (osOf rs) c && (b == -1 || hasO (osOf rs) b)) = false
  · have e6 : linkE (osOf rs) p c b = 6 := by rw [linkE, if_pos hno]
    rw [e6, keep e6 (by decide)]
    exact (refLink_none h p c b hno).mono fun e w' ⟨h1, h2⟩ => ⟨h1, hS0.upd (h2 ▸ Below.refl _ _)⟩
  · have hno' : hasO (osOf rs) p = true ∧ hasO (osOf rs) c = true ∧ (b = -1 ∨ hasO (osOf rs) b = true) := by
      have := hno
      simp only [Bool.not_eq_false, Bool.and_eq_true, Bool.or_eq_true, beq_iff_eq] at this
      exact ⟨this.1.1, this.1.2, this.2⟩
    obtain ⟨hp, hc, hb⟩ := hno'
    obtain ⟨pi, op, rfl, hop⟩ := hasO_yes hp
    obtain ⟨ci, oc, rfl, hoc⟩ := hasO_yes hc
    have hpl : pi < rs.length := by rw [← osOf_len]; exact (List.getElem?_eq_some_iff.1 hop).1
    have hcl : ci < rs.length := by rw [← osOf_len]; exact (List.getElem?_eq_some_iff.1 hoc).1
    obtain ⟨rp, hrp⟩ : ∃ r, rs[pi]? = some r := ⟨_, List.getElem?_eq_getElem hpl⟩
    obtain ⟨rc, hrc⟩ : ∃ r, rs[ci]? = some r := ⟨_, List.getElem?_eq_getElem hcl⟩
    have e1 := osOf_get hrp
    rw [hop] at e1
    cases e1
    have e2 := osOf_get hrc
    rw [hoc] at e2
    cases e2
    have h3 : Three rs pi ci b rp rc := ⟨hrp, hrc, hb⟩
    have hE : linkE (osOf rs) pi ci b = if parentM rp.o.kind = false ∨ rc.o.kind = 0 ∨ rc.o.kind = 5 then 10 else if rc.o.up ≠ -1 ∨ aboveO (osOf rs) pi ci = true then 11 else if b ≠ -1 ∧ upIO (osOf rs) b ≠ pi then 1 else 0 := by
      rw [linkE, if_neg hno, kindO_of hop, kindO_of hoc, upIO_of hoc]
    by_cases k1 : parentM rp.o.kind = false ∨ rc.o.kind = 0 ∨ rc.o.kind = 5
    · rw [if_pos k1] at hE
      rw [hE, keep hE (by decide)]
      exact (refLink_kind h h3 k1).mono fun e w' ⟨h1, h2⟩ => ⟨h1, hS0.upd h2⟩
    · rw [if_neg k1] at hE
      have hk : parentM rp.o.kind = true := by
        cases hh : parentM rp.o.kind with
        | true => rfl
        | false => exact absurd (.inl hh) k1
      have hk0 : rc.o.kind ≠ 0 := fun e => k1 (.inr (.inl e))
      have hk5 : rc.o.kind ≠ 5 := fun e => k1 (.inr (.inr e))
      by_cases k2 : rc.o.up ≠ -1 ∨ aboveO (osOf rs) pi ci = true
      · rw [if_pos k2] at hE
        rw [hE, keep hE (by decide)]
        exact (refLink_linked h h3 hs.ends hk hk0 hk5 k2).mono fun e w' ⟨h1, h2⟩ => ⟨h1, hS0.upd h2⟩
      · rw [if_neg k2] at hE
        have hup : rc.o.up = -1 := Decidable.byContradiction fun e => k2 (.inl e)
        have hab : aboveO (osOf rs) pi ci = false := by
          cases hh : aboveO (osOf rs) pi ci with
          | false => rfl
          | true => exact absurd (.inr hh) k2
        by_cases k3 : b ≠ -1 ∧ upIO (osOf rs) b ≠ pi
        · rw [if_pos k3] at hE
          rw [hE, keep hE (by decide)]
          exact (refLink_arg h h3 hs.ends hk hk0 hk5 hup hab k3.1 k3.2).mono fun e w' ⟨h1, h2⟩ => ⟨h1, hS0.upd h2⟩
        · rw [if_neg k3] at hE
          obtain ⟨path, hpath⟩ := hs.ends pi (by rw [osOf_len]; exact hpl)
          have hnot : ci ∉ path := fun e => by
            have := aboveO_of hop (hasO_of hoc) hpath
            rw [hab, mem_inPath.2 e] at this; cases this
          have hpc : pi ≠ ci := fun e => hnot (e ▸ path_head hpath)
          have hcout : ci ∉ rp.o.kids := fun hx => by
            obtain ⟨m, hm, hu⟩ := hs.down pi rp.o ci hop hx
            rw [hoc] at hm; cases hm; omega
          have hbu : b = -1 ∨ upIO (osOf rs) b = pi := by
            by_cases e : b = -1
            · exact .inl e
            · exact .inr (Decidable.byContradiction fun e2 => k3 ⟨e, e2⟩)
          have hmem : b = -1 ∨ ∃ x ∈ rp.o.kids, b = (x : Int) := by
            rcases hb with hb | hb
            · exact .inl hb
            · rcases hbu with hbu | hbu
              · exact .inl hbu
              · obtain ⟨bi, ob, rfl, hob⟩ := hasO_yes hb
                rw [upIO_of hob] at hbu
                rcases hs.up bi ob hob with e | ⟨q, m, e, hqm, hi⟩
                · omega
                · have : q = pi := by omega
                  subst this
                  rw [hop] at hqm; cases hqm
                  exact .inr ⟨bi, hi, rfl⟩
          have hsm : rp.o.kids.length + 1 ≤ 32768 := by
            have := hs.kids_lt hop (by rw [osOf_len]; exact hcl) hcout
            rw [osOf_len] at this
            have := h.most; omega
          have hR : linkR (osOf rs) pi ci b = linkO (osOf rs) pi ci b := by rw [linkR, hE, if_pos rfl]; simp
          rw [hE, hR]
          refine (refLink_ok h pi ci rp rc hrp hrc hpc b hb hs.ends hk hk0 hk5 hup hab hbu hsm (hs.kids pi rp.o hop).nodup hmem).mono fun e w' ⟨h1, kv, h2, h3, h4⟩ => ⟨h1, ?_⟩
          have := urf_two hG hrp hrc h2 h3 h4
          rw [osOf_two hrp hrc hpc kv (pi : Int) (fun l => insO l b ci)] at this
          exact this
end
end Go.Proofs.Ytlbkoafeedlfaaa

namespace Go.Proofs.Ytlbkoafeedlfaaa
open Go.RowKit

section
variable {w w' : World} {base bR : Nat} {os : List OneM} {G : Nat → Prop} {ns : List NodeM}

def dropK (c : Nat) (l : List Nat) : List Nat := l.filter (· ≠ c)

theorem refUnlink_none {g cap : Nat} {rs : List OneR} (h : Rf w base bR g cap rs) (k : Int) (hk : hasO (osOf rs) k = false) :
    Calls Try.prog 40 #[.pointer (some ⟨bR, 0, none⟩), .int .i64 k] w fun e w' => e = .returned (.int .i64 6) ∧ w = w' := by
  have HI := hide (refIs_any h k)
  rw [hk] at HI
  clear h hk
  go_enter Try.func40, Try.ntmps40
  go_wp2_with (go_at_call 79; refine (unhide HI).mono ?_; rintro e w' ⟨rfl, rfl⟩)
  go_ret
  exact ⟨rfl, rfl⟩

theorem refUnlink_free {g cap : Nat} {rs : List OneR} (h : Rf w base bR g cap rs) (i : Nat) (r : OneR) (hi : rs[i]? = some r) (hu : r.o.up = -1) :
    Calls Try.prog 40 #[.pointer (some ⟨bR, 0, none⟩), .int .i64 i] w fun e w' => e = .returned (.int .i64 5) ∧ w = w' := by
  have hlt : i < rs.length := (List.getElem?_eq_some_iff.1 hi).1
  have HI := hide (refIs_any h i)
  have q1 : hasO (osOf rs) i = true := hasO_of (osOf_get hi)
  rw [q1] at HI
  have hA := h.cR
  have hn := h.most
  have c8 := (h.cells10 hi).2.2.2.2.2.2.2.2.1
  rw [hu] at c8
  clear h hi q1 hu
  go_enter Try.func40, Try.ntmps40
  go_wp2_with (go_at_call 79; refine (unhide HI).mono ?_; rintro e w' ⟨rfl, rfl⟩)
  go_ret
  exact ⟨rfl, rfl⟩

set_option maxHeartbeats 4000000 in
theorem refUnlink_ok {g cap : Nat} {rs : List OneR} (h : Rf w base bR g cap rs) (p c : Nat) (rp rc : OneR) (hp : rs[p]? = some rp) (hc : rs[c]? = some rc) (hpc : p ≠ c) (hup : rc.o.up = (p : Int)) :
    Calls Try.prog 40 #[.pointer (some ⟨bR, 0, none⟩), .int .i64 c] w fun e w' => e = .returned (.int .i64 0) ∧
      ∃ kv, Rf w' base bR g cap ((rs.set p { rp with o := { rp.o with kids := dropK c rp.o.kids }, kv := kv }).set c { rc with o := { rc.o with up := -1 } }) ∧ Mod (fun k => k = g) w w' ∧ (∀ k, blk kv = some k → w.heap.size ≤ k) := by
  have hlp : p < rs.length := (List.getElem?_eq_some_iff.1 hp).1
  have hlc : c < rs.length := (List.getElem?_eq_some_iff.1 hc).1
  have HI := hide (refIs_any h c)
  have i2 : hasO (osOf rs) c = true := hasO_of (osOf_get hc)
  rw [i2] at HI
  have hn := h.most
  have hA := h.cR
  have c8 := (h.cells10 hc).2.2.2.2.2.2.2.2.1
  rw [hup] at c8
  have hp1 : ((p : Int) == -1) = false := beq_eq_false_iff_ne.2 (by omega)
  obtain ⟨a, cp, hkv, hin, hkl⟩ := h.kids p rp hp
  obtain ⟨i0, hi0, hz0, hz1, hz2⟩ := info_parts Try.info3
  generalize hks : rp.o.kids = ks at *
  have HIN := hide hin
  have HH := hide h
  have HPP := hide hp
  have HCC := hide hc
  have HKV := hide hkv
  clear hin h hp hc i2 hkv hup
  go_enter Try.func40, Try.ntmps40
  go_wp2_with (go_at_call 79; refine (unhide HI).mono ?_; rintro e w' ⟨rfl, rfl⟩)
  go_loopg [6, 7] ks.length (fun k s6 s7 wx => ∃ (j : Nat) (xs : List Nat), s7 = .int .i64 j ∧ j + k = ks.length ∧ xs = (ks.take j).filter (· ≠ c) ∧ xs.length ≤ j ∧ Acc w wx s6 xs)
  case atStart => exact ⟨0, [], rfl, by omega, by simp, by simp, Acc.nil w w (Below.refl _ _)⟩
  case round =>
    obtain ⟨j, xs, rfl, hjk, hxs, hxl, hacc⟩ := hrel
    have HC := hide hacc
    have HXS := hide hxs
    clear hacc hxs
    have har := (unhide HH).below (unhide HC).below
    have hA1 := har.cR
    have c9 := (har.cells10 (unhide HPP)).2.2.2.2.2.2.2.2.2
    rw [unhide HKV] at c9
    by_cases hj : j < ks.length
    · have hx : ks[j]? = some ks[j] := List.getElem?_eq_getElem hj
      generalize ks[j] = y at hx
      obtain ⟨bb, off, rfl, hcw⟩ := (unhide HIN).cells j y hx
      have hblt : bb < w.heap.size := World.block_lt_of_cell? w _ hcw
      have hcj := ((unhide HC).below.cell (p := ⟨bb, off + j, none⟩) hblt).trans hcw
      have hjz : (j : Int) < (ks.length : Int) := by omega
      have htk : (ks.take (j + 1)).filter (· ≠ c) = (ks.take j).filter (· ≠ c) ++ (if y = c then [] else [y]) := by
        rw [List.take_add_one, hx, List.filter_append]
        by_cases e : y = c <;> simp [e]
      have HTK := hide htk
      clear htk hx har
      by_cases hyc : y = c
      · have hne : ((y : Int) != (c : Int)) = false := by simp [hyc]
        have hyc' : (if y = c then [] else [y] : List Nat) = [] := by simp [hyc]
        rw [hyc'] at HTK
        clear hyc hyc'
        go_wp2
        go_roundg (gk - 1)
        case measure => omega
        case rel => exact ⟨j + 1, xs, by go_num, by omega, by rw [unhide HTK, unhide HXS]; simp, by omega, unhide HC⟩
      · have hne : ((y : Int) != (c : Int)) = true := by rw [bne_iff_ne]; omega
        have hyc' : (if y = c then [] else [y] : List Nat) = [y] := by simp [hyc]
        rw [hyc'] at HTK
        clear hyc hyc'
        go_wp2_with (first
          | (at_builtin; go_must (refine wpList_append_lies _ (by rfl) _ _ 41 (by rfl) w.heap.size 3 i0 _ 1 8 Try.underlying41 hi0 hz0 hz1 hz2 rfl (by omega) u6 xs.length (intsV xs) (by rfl) ((unhide HC).own.alloc _) ⟨wr.heap.size, 0, none⟩ 1 1 [.int .i64 (y : Int)] (by rfl) (by rfl) (one_news wr 3 _) (by simp [Value.oneCell']) (by omega) (by unfold maxLen; omega) (by omega) (by have := (unhide HC).below.size; simp; omega) _ rfl ?_); intro g1 c1 w1 hown1 hgrow1 hat1 hlt1; have HC1 := hide ((unhide HC).step (y := y) _ hown1 hgrow1); clear hown1 hgrow1 hat1 hlt1))
        go_roundg (gk - 1)
        case measure => omega
        case rel => exact ⟨j + 1, xs ++ [y], by go_num, by omega, by rw [unhide HTK, unhide HXS], by simp; omega, unhide HC1⟩
    · have hjz : ¬ (j : Int) < (ks.length : Int) := by omega
      obtain rfl : j = ks.length := by omega
      have hfin : xs = dropK c ks := by rw [unhide HXS, List.take_length]; rfl
      have HFIN := hide hfin
      obtain ⟨a9, k9, e9, _⟩ := ownsRow_ints (unhide HC).own
      subst e9
      have fg1 := har.fg
      have nR := har.neRg
      obtain ⟨v8, d8⟩ := har.there (unhide HCC) 8 (by omega)
      clear hfin har
      set_option maxRecDepth 10000 in
      go_wp2
      go_ret
      refine ⟨rfl, ?_⟩
      rw [← unhide HFIN]
      exact link_close (unhide HH) (unhide HC) (unhide HPP) (unhide HCC) hpc (by omega) (-1)

theorem no_loop {f : Nat → Option Int} {i : Nat} (h : f i = some (i : Int)) : ∀ (path : List Nat), ¬ PathOf f i path
  | [], hp => by have : (i : Int) = -1 := hp; omega
  | j :: r, hp => by
    obtain ⟨e, m, hm, hr⟩ := hp
    have : i = j := by omega
    subst this
    rw [h] at hm
    cases hm
    exact no_loop h r hr

theorem refUnlink_sim (hS : RfS w base bR os G) (hs : Sim ns os) (c : Int) :
    Calls Try.prog 40 #[.pointer (some ⟨bR, 0, none⟩), .int .i64 c] w fun e w' => e = .returned (.int .i64 (unlinkE os c)) ∧ URf G w w' base bR (unlinkR os c) := by
  have hS0 := hS
  obtain ⟨g, cap, rs, h, rfl, hG⟩ := hS
  cases hh : hasO (osOf rs) c with
  | false =>
    have e6 : unlinkE (osOf rs) c = 6 := by rw [unlinkE, if_pos hh]
    have hr : unlinkR (osOf rs) c = osOf rs := by rw [unlinkR, e6, if_neg (by decide)]
    rw [e6, hr]
    exact (refUnlink_none h c hh).mono fun e w' ⟨h1, h2⟩ => ⟨h1, hS0.upd (h2 ▸ Below.refl _ _)⟩
  | true =>
    obtain ⟨ci, oc, rfl, hoc⟩ := hasO_yes hh
    have hcl : ci < rs.length := by rw [← osOf_len]; exact (List.getElem?_eq_some_iff.1 hoc).1
    obtain ⟨rc, hrc⟩ : ∃ r, rs[ci]? = some r := ⟨_, List.getElem?_eq_getElem hcl⟩
    have e2 := osOf_get hrc
    rw [hoc] at e2
    cases e2
    by_cases hu : rc.o.up = -1
    · have e5 : unlinkE (osOf rs) ci = 5 := by rw [unlinkE, if_neg (by rw [hh]; decide), upIO_of hoc, if_pos hu]
      have hr : unlinkR (osOf rs) ci = osOf rs := by rw [unlinkR, e5, if_neg (by decide)]
      rw [e5, hr]
      exact (refUnlink_free h ci rc hrc hu).mono fun e w' ⟨h1, h2⟩ => ⟨h1, hS0.upd (h2 ▸ Below.refl _ _)⟩
    · have e0 : unlinkE (osOf rs) ci = 0 := by rw [unlinkE, if_neg (by rw [hh]; decide), upIO_of hoc, if_neg hu]
      obtain ⟨p, op, A, B, hup, hop, hk⟩ := hs.cut hoc hu
      have hpl : p < rs.length := by rw [← osOf_len]; exact (List.getElem?_eq_some_iff.1 hop).1
      obtain ⟨rp, hrp⟩ : ∃ r, rs[p]? = some r := ⟨_, List.getElem?_eq_getElem hpl⟩
      have e1 := osOf_get hrp
      rw [hop] at e1
      cases e1
      have hpc : p ≠ ci := by
        intro e
        subst e
        obtain ⟨path, hpath⟩ := hs.ends p (by rw [osOf_len]; exact hpl)
        have hself : upO (osOf rs) p = some (p : Int) := by rw [upO_of hoc, if_neg hu, hup]
        exact absurd hpath (no_loop hself path)
      have hr : unlinkR (osOf rs) ci = unlinkO (osOf rs) p ci := by rw [unlinkR, if_pos e0, upIO_of hoc, hup]; simp
      rw [e0, hr]
      refine (refUnlink_ok h p ci rp rc hrp hrc hpc hup).mono fun e w' ⟨h1, kv, h2, h3, h4⟩ => ⟨h1, ?_⟩
      have := urf_two hG hrp hrc h2 h3 h4
      rw [osOf_two hrp hrc hpc kv (-1) (fun l => dropK ci l)] at this
      exact this
end
end Go.Proofs.Ytlbkoafeedlfaaa
