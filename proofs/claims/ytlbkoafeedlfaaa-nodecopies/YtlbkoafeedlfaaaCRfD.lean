/-
  The document's own arena: Link, told by plain nodes; a child is taken out.
-/
import Derived.Test.YtlbkoafeedlfaaaCRfB
import Derived.Test.YtlbkoafeedlfaaaCRfC
namespace Go.Proofs.Ytlbkoafeedlfaaa
open Go.RowKit

section
variable {w w' : World} {base bR : Nat} {os : List OneM} {G : Nat → Prop} {ns : List NodeM}

/-- Two nodes told anew. -/
theorem urf_two {g cap : Nat} {rs : List OneR} {p c : Nat} {rp rc : OneR} {ks : List Nat} {kv : Value} {x : Int} (hG : ∀ k, G k ↔ footR bR g rs k) (hp : rs[p]? = some rp) (hc : rs[c]? = some rc)
    (h : Rf w' base bR g cap ((rs.set p { rp with o := { rp.o with kids := ks }, kv := kv }).set c { rc with o := { rc.o with up := x } })) (hm : Mod (fun k => k = g) w w') (hkv : ∀ k, blk kv = some k → w.heap.size ≤ k) :
    URf G w w' base bR (osOf ((rs.set p { rp with o := { rp.o with kids := ks }, kv := kv }).set c { rc with o := { rc.o with up := x } })) := by
  refine ⟨_, ⟨g, cap, _, h, rfl, fun k => Iff.rfl⟩, hm.mono (fun k _ hk => (hG k).2 (.inr (.inl hk))), fun k hk => ?_⟩
  rcases hk with hk | hk | ⟨y, hy, hk⟩
  · exact .inl ((hG k).2 (.inl hk))
  · exact .inl ((hG k).2 (.inr (.inl hk)))
  · rcases List.mem_or_eq_of_mem_set hy with hy | rfl
    · rcases List.mem_or_eq_of_mem_set hy with hy | rfl
      · exact .inl ((hG k).2 (.inr (.inr ⟨y, hy, hk⟩)))
      · rcases hk with hk | hk
        · exact .inl ((hG k).2 (.inr (.inr ⟨rp, List.mem_of_getElem? hp, .inl hk⟩)))
        · exact .inr (hkv k hk)
    · exact .inl ((hG k).2 (.inr (.inr ⟨rc, List.mem_of_getElem? hc, hk⟩)))

theorem osOf_two {rs : List OneR} {p c : Nat} {rp rc : OneR} (hp : rs[p]? = some rp) (hc : rs[c]? = some rc) (hpc : p ≠ c) (kv : Value) (x : Int) (f : List Nat → List Nat) :
    osOf ((rs.set p { rp with o := { rp.o with kids := f rp.o.kids }, kv := kv }).set c { rc with o := { rc.o with up := x } }) = ((osOf rs).modify p fun o => { o with kids := f o.kids }).modify c fun o => { o with up := x } := by
  rw [osOf_set _ c _ (fun o => { o with up := x }) (by rw [List.getElem?_set_ne hpc]; exact hc) rfl, osOf_set rs p _ (fun o => { o with kids := f o.kids }) hp rfl]

theorem Sim.kids_lt {os : List OneM} (hs : Sim ns os) {p : Nat} {op : OneM} (hop : os[p]? = some op) {c : Nat} (hc : c < os.length) (hn : c ∉ op.kids) : op.kids.length + 1 ≤ os.length := by
  have hK := hs.kids p op hop
  have hnd : (c :: op.kids).Nodup := List.nodup_cons.2 ⟨hn, hK.nodup⟩
  have := List.Nodup.length_le_of_subset hnd (l₂ := List.range os.length) (fun x hx => by
    rw [List.mem_range]
    rcases List.mem_cons.1 hx with rfl | hx
    · exact hc
    · have := hK.mem x hx; rw [hs.len] at this; exact this)
  simpa using this

theorem refLink_sim (hS : RfS w base bR os G) (hs : Sim ns os) (p c b : Int) :
    Calls Try.prog 38 #[.pointer (some ⟨bR, 0, none⟩), .int .i64 p, .int .i64 c, .int .i64 b] w fun e w' => e = .returned (.int .i64 (linkE os p c b)) ∧ URf G w w' base bR (linkR os p c b) := by
  have hS0 := hS
  obtain ⟨g, cap, rs, h, rfl, hG⟩ := hS
  have keep : ∀ {e : Int}, linkE (osOf rs) p c b = e → e ≠ 0 → linkR (osOf rs) p c b = osOf rs := fun {e} he hne => by rw [linkR, he, if_neg hne]
  by_cases hno : (hasO (osOf rs) p && hasO (osOf rs) c && (b == -1 || hasO (osOf rs) b)) = false
  · have e6 : linkE (osOf rs) p c b = 6 := by rw [linkE, if_pos hno]
    rw [e6, keep e6 (by decide)]
    exact (refLink_none h p c b hno).mono fun e w' ⟨h1, h2⟩ => ⟨h1, hS0.upd (h2 ▸ Below.refl _ _)⟩
  · have hno' : hasO (osOf rs) p = true ∧ hasO (osOf rs) c = true ∧ (b = -1 ∨ hasO (osOf rs) b = true) := by
      have := hno
      simp only [Bool.not_eq_false, Bool.and_eq_true, Bool.or_eq_true, beq_iff_eq] at this
      exact ⟨this.1.1, this.1.2, this.2⟩
    obtain ⟨hp, hc, hb⟩ := hno'
    obtain ⟨pi, op, rfl, hop⟩ := hasO_yes hp
    obtain ⟨ci, oc, rfl, hoc⟩ := hasO_yes hc
    have hpl : pi < rs.length := by rw [← osOf_len]; exact (List.getElem?_eq_some_iff.1 hop).1
    have hcl : ci < rs.length := by rw [← osOf_len]; exact (List.getElem?_eq_some_iff.1 hoc).1
    obtain ⟨rp, hrp⟩ : ∃ r, rs[pi]? = some r := ⟨_, List.getElem?_eq_getElem hpl⟩
    obtain ⟨rc, hrc⟩ : ∃ r, rs[ci]? = some r := ⟨_, List.getElem?_eq_getElem hcl⟩
    have e1 := osOf_get hrp
    rw [hop] at e1
    cases e1
    have e2 := osOf_get hrc
    rw [hoc] at e2
    cases e2
    have h3 : Three rs pi ci b rp rc := ⟨hrp, hrc, hb⟩
    have hE : linkE (osOf rs) pi ci b = if parentM rp.o.kind = false ∨ rc.o.kind = 0 ∨ rc.o.kind = 5 then 10 else if rc.o.up ≠ -1 ∨ aboveO (osOf rs) pi ci = true then 11 else if b ≠ -1 ∧ upIO (osOf rs) b ≠ pi then 1 else 0 := by
      rw [linkE, if_neg hno, kindO_of hop, kindO_of hoc, upIO_of hoc]
    by_cases k1 : parentM rp.o.kind = false ∨ rc.o.kind = 0 ∨ rc.o.kind = 5
    · rw [if_pos k1] at hE
      rw [hE, keep hE (by decide)]
      exact (refLink_kind h h3 k1).mono fun e w' ⟨h1, h2⟩ => ⟨h1, hS0.upd h2⟩
    · rw [if_neg k1] at hE
      have hk : parentM rp.o.kind = true := by
        cases hh : parentM rp.o.kind with
        | true => rfl
        | false => exact absurd (.inl hh) k1
      have hk0 : rc.o.kind ≠ 0 := fun e => k1 (.inr (.inl e))
      have hk5 : rc.o.kind ≠ 5 := fun e => k1 (.inr (.inr e))
      by_cases k2 : rc.o.up ≠ -1 ∨ aboveO (osOf rs) pi ci = true
      · rw [if_pos k2] at hE
        rw [hE, keep hE (by decide)]
        exact (refLink_linked h h3 hs.ends hk hk0 hk5 k2).mono fun e w' ⟨h1, h2⟩ => ⟨h1, hS0.upd h2⟩
      · rw [if_neg k2] at hE
        have hup : rc.o.up = -1 := Decidable.byContradiction fun e => k2 (.inl e)
        have hab : aboveO (osOf rs) pi ci = false := by
          cases hh : aboveO (osOf rs) pi ci with
          | false => rfl
          | true => exact absurd (.inr hh) k2
        by_cases k3 : b ≠ -1 ∧ upIO (osOf rs) b ≠ pi
        · rw [if_pos k3] at hE
          rw [hE, keep hE (by decide)]
          exact (refLink_arg h h3 hs.ends hk hk0 hk5 hup hab k3.1 k3.2).mono fun e w' ⟨h1, h2⟩ => ⟨h1, hS0.upd h2⟩
        · rw [if_neg k3] at hE
          obtain ⟨path, hpath⟩ := hs.ends pi (by rw [osOf_len]; exact hpl)
          have hnot : ci ∉ path := fun e => by
            have := aboveO_of hop (hasO_of hoc) hpath
            rw [hab, mem_inPath.2 e] at this; cases this
          have hpc : pi ≠ ci := fun e => hnot (e ▸ path_head hpath)
          have hcout : ci ∉ rp.o.kids := fun hx => by
            obtain ⟨m, hm, hu⟩ := hs.down pi rp.o ci hop hx
            rw [hoc] at hm; cases hm; omega
          have hbu : b = -1 ∨ upIO (osOf rs) b = pi := by
            by_cases e : b = -1
            · exact .inl e
            · exact .inr (Decidable.byContradiction fun e2 => k3 ⟨e, e2⟩)
          have hmem : b = -1 ∨ ∃ x ∈ rp.o.kids, b = (x : Int) := by
            rcases hb with hb | hb
            · exact .inl hb
            · rcases hbu with hbu | hbu
              · exact .inl hbu
              · obtain ⟨bi, ob, rfl, hob⟩ := hasO_yes hb
                rw [upIO_of hob] at hbu
                rcases hs.up bi ob hob with e | ⟨q, m, e, hqm, hi⟩
                · omega
                · have : q = pi := by omega
                  subst this
                  rw [hop] at hqm; cases hqm
                  exact .inr ⟨bi, hi, rfl⟩
          have hsm : rp.o.kids.length + 1 ≤ 32768 := by
            have := hs.kids_lt hop (by rw [osOf_len]; exact hcl) hcout
            rw [osOf_len] at this
            have := h.most; omega
          have hR : linkR (osOf rs) pi ci b = linkO (osOf rs) pi ci b := by rw [linkR, hE, if_pos rfl]; simp
          rw [hE, hR]
          refine (refLink_ok h pi ci rp rc hrp hrc hpc b hb hs.ends hk hk0 hk5 hup hab hbu hsm (hs.kids pi rp.o hop).nodup hmem).mono fun e w' ⟨h1, kv, h2, h3, h4⟩ => ⟨h1, ?_⟩
          have := urf_two hG hrp hrc h2 h3 h4
          rw [osOf_two hrp hrc hpc kv (pi : Int) (fun l => insO l b ci)] at this
          exact this
end
end Go.Proofs.Ytlbkoafeedlfaaa
