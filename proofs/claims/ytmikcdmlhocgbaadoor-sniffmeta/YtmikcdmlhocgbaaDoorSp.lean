/-
  Package sniff's meta: the attributes of a meta tag, each name heard once.
-/
import Derived.Test.YtmikcdmlhocgbaaDoorSq
import Derived.Test.YtmikcdmlhocgbaaDoorSo
import Derived.Carry
namespace Go.Proofs.YtmikcdmlhocgbaaDoor
open Go.RowKit Go.Lib Go.Shelf
attribute [local go_sem] Oper.semAt_some run_makeMap

theorem content_short {l x : List UInt8} : ∀ {n k : Nat}, contentF l n k = some x → x.length ≤ l.length
  | 0, _, h => by unfold contentF at h; cases h
  | n + 1, k, h => by
    unfold contentF at h
    split at h
    · split at h
      · exact charset_short h
      · exact content_short h
    · cases h
theorem contentM_short {l x : List UInt8} (h : contentM l = some x) : x.length ≤ l.length := content_short h
theorem attr_short {l : List UInt8} {k k' : Nat} {x : List UInt8 × List UInt8} (h : attrM l k = (some x, k')) : x.2.length ≤ l.length := by
  unfold attrM attrA at h
  split at h
  · simp at h
  · split at h
    · simp at h
    · split at h
      · split at h
        · simp at h
          obtain ⟨rfl, _⟩ := h
          simp only
          unfold valueV
          split
          · rw [List.length_map]
            unfold quotedM
            split
            · split
              · simp; omega
              · simp
            · simp
          · simp; omega
        · simp at h
      · simp at h
        obtain ⟨rfl, _⟩ := h
        simp

def foldC (st : ClaimS × (List UInt8 → Nat)) (x : List UInt8 × List UInt8) : ClaimS × (List UInt8 → Nat) := (if st.2 x.1 = 0 then hearM st.1 x else st.1, bump st.2 x.1)
def stC (pre : List (List UInt8 × List UInt8)) : ClaimS × (List UInt8 → Nat) := pre.foldl foldC (⟨-1, false, false⟩, fun _ => 0)
theorem stC_snoc (pre : List (List UInt8 × List UInt8)) (x : List UInt8 × List UInt8) : stC (pre ++ [x]) = foldC (stC pre) x := by simp [stC]
theorem fold_le : ∀ (pre : List (List UInt8 × List UInt8)) (st : ClaimS × (List UInt8 → Nat)) (k : Nat), (∀ n, st.2 n ≤ k) → ∀ n, (pre.foldl foldC st).2 n ≤ k + pre.length
  | [], st, k, h, n => by simpa using h n
  | x :: r, st, k, h, n => by
    have := fold_le r (foldC st x) (k + 1) (by intro m; simp only [foldC, bump]; split; · have := h x.1; omega
                                               · have := h m; omega) n
    simp only [List.foldl_cons, List.length_cons]
    omega
theorem stC_le (pre : List (List UInt8 × List UInt8)) (n : List UInt8) : (stC pre).2 n ≤ pre.length := by
  have := fold_le pre (⟨-1, false, false⟩, fun _ => 0) 0 (fun _ => Nat.le_refl _) n
  simpa [stC] using this

theorem Mod.setBlock {F : Nat → Prop} (w : World) (m : Nat) (o : Obj) (hF : F m) : Mod F w (Go.ChangeMaps.setBlock w m o) := by
  refine ⟨rfl, rfl, rfl, by simp [Go.ChangeMaps.setBlock], fun k _ hk => ?_⟩
  have hne : m ≠ k := fun e => hk (e ▸ hF)
  simp [Go.ChangeMaps.setBlock, hne]
theorem Mod.keeps {F : Nat → Prop} {B : Nat} {w w' : World} (h : Mod F w w') (hF : ∀ k, F k → k < B) : KeepsFrom B w w' :=
  ⟨h.size, fun k o hB hk _ => (h.block k (Array.getElem?_eq_some_iff.1 hk).1 (fun e => by have := hF k e; omega)).trans hk⟩
theorem Seen.of_block {w w' : World} {m : Nat} {f : List UInt8 → Nat} (h : Seen w m f) (hb : w'.heap[m]? = w.heap[m]?) : Seen w' m f := by
  obtain ⟨es, clock, h1, h2⟩ := h
  exact ⟨es, clock, hb.trans h1, h2⟩
theorem Cl.of_block {w w' : World} {c : Nat} {s : ClaimS} (h : Cl w c s) (hb : w'.heap[c]? = w.heap[c]?) : Cl w' c s := by
  unfold Cl at h ⊢
  exact hb.trans h
theorem Boxed.of_block {w w' : World} {c t : Nat} {v : Value} (h : Boxed w c t v) (hb : w'.heap[c]? = w.heap[c]?) : Boxed w' c t v := by
  unfold Boxed at h ⊢
  exact hb.trans h

structure MetaI (w0 : World) (b : Nat) (pre : List (List UInt8 × List UInt8)) (W : World) : Prop where
  cl : Cl W w0.heap.size (stC pre).1
  bc : Boxed W (w0.heap.size + 1) 77 (.pointer (some ⟨w0.heap.size, 0, none⟩))
  seen : Seen W (w0.heap.size + 1 + 1) (stC pre).2
  bs : Boxed W (w0.heap.size + 1 + 1 + 1) 80 (.map (some (w0.heap.size + 1 + 1)))
  mod : Mod (· = b) w0 W
theorem MetaI.carry {w0 W W' : World} {b : Nat} {pre : List (List UInt8 × List UInt8)} (h : MetaI w0 b pre W) (hb : b < w0.heap.size) (hm : Mod (· = b) W W') : MetaI w0 b pre W' := by
  have hB : ∀ k, k < W.heap.size → w0.heap.size ≤ k → W'.heap[k]? = W.heap[k]? := fun k h1 h2 => hm.block k h1 (by omega)
  have hlt : w0.heap.size + 1 + 1 + 1 < W.heap.size := by
    have := h.bs
    unfold Boxed at this
    exact (Array.getElem?_eq_some_iff.1 this).1
  exact ⟨h.cl.of_block (hB _ (by omega) (by omega)), Boxed.of_block h.bc (hB _ (by omega) (by omega)), h.seen.of_block (hB _ (by omega) (by omega)), Boxed.of_block h.bs (hB _ (by omega) (by omega)), h.mod.trans hm⟩
theorem MetaI.putL {w0 W : World} {b : Nat} {pre : List (List UInt8 × List UInt8)} (h : MetaI w0 b pre W) (l : Nat) (o : Obj) (hl : w0.heap.size + 1 + 1 + 1 < l) : MetaI w0 b pre (W.putObj l o) := by
  have hB : ∀ k, k < l → (W.putObj l o).heap[k]? = W.heap[k]? := fun k h1 => World.putObj_heap_other (by omega)
  refine ⟨h.cl.of_block (hB _ (by omega)), Boxed.of_block h.bc (hB _ (by omega)), h.seen.of_block (hB _ (by omega)), Boxed.of_block h.bs (hB _ (by omega)), ?_⟩
  refine ⟨h.mod.os, h.mod.tape, h.mod.output, Nat.le_trans h.mod.size (by simp [World.putObj]), fun k h1 h2 => (hB k (by omega)).trans (h.mod.block k h1 h2)⟩

set_option maxHeartbeats 2000000 in
theorem meta_in (n : Nat) (hn : 4 ≤ n) (b : Nat) (t : ByteArray) (hs : Small t) (k0 : Nat) (hk0 : k0 ≤ t.size) (w : World) (hsc : Sc w b t k0) :
    CallsIn Fence.wide n Tryd.prog 41 #[.pointer (some ⟨b, 0, none⟩)] w fun e W' => e = .returned (.tuple #[.int .i64 (toldM (stC (attrsM t.data.toList k0).1).1).1, .bool (toldM (stC (attrsM t.data.toList k0).1).1).2]) ∧ Gone w W' b t (attrsM t.data.toList k0).2 := by
  obtain ⟨q1, hq1⟩ : ∃ q1, (toldM (stC (attrsM t.data.toList k0).1).1).1 = q1 := ⟨_, rfl⟩
  obtain ⟨q2, hq2⟩ : ∃ q2, (toldM (stC (attrsM t.data.toList k0).1).1).2 = q2 := ⟨_, rfl⟩
  rw [hq1, hq2]
  have HQ := hide (And.intro hq1 hq2)
  clear hq1 hq2
  have HS := hide hs
  have HK := hide hk0
  have HSC := hide hsc
  have hbw : b < w.heap.size := hsc.lt
  have HBW := hide hbw
  clear hs hk0 hsc hbw
  refine callsIn_of_wp_marks Tryd.func41 rfl trivial ?_ rfl
  simp only [Tryd.ntmps41, List.size_toArray, List.length_cons, List.length_nil, Nat.reduceAdd, Nat.reduceSub, Array.replicate_succ, Array.replicate_zero, List.push_toArray, List.append_toArray, List.nil_append, List.cons_append]
  gi_wp2_with fail
  have hbel : Below w.heap.size w ((((w.alloc (.cells #[.int .i64 (-1), .bool false, .bool false] 79)).alloc (.cells #[.pointer (some ⟨w.heap.size, 0, none⟩)] 77)).alloc (.map #[] 0)).alloc (.cells #[.map (some (w.heap.size + 1 + 1))] 80)) :=
    ((((Below.refl _ w).alloc (Nat.le_refl _) _).alloc (by simp) _).alloc (by simp; omega) _).alloc (by simp; omega) _
  have hI0 : MetaI w b [] ((((w.alloc (.cells #[.int .i64 (-1), .bool false, .bool false] 79)).alloc (.cells #[.pointer (some ⟨w.heap.size, 0, none⟩)] 77)).alloc (.map #[] 0)).alloc (.cells #[.map (some (w.heap.size + 1 + 1))] 80)) := by
    refine ⟨?_, ?_, ⟨#[], 0, ?_, by simp, by simp, fun l h => absurd h (by simp [stC])⟩, ?_, Mod.of_below hbel⟩
    · unfold Cl
      rw [Below.heap_alloc _ _ _ (by simp; omega), Below.heap_alloc _ _ _ (by simp; omega), Below.heap_alloc _ _ _ (by simp)]
      exact World.alloc_heap_new _ _
    · unfold Boxed
      rw [Below.heap_alloc _ _ _ (by simp), Below.heap_alloc _ _ _ (by simp)]
      have := World.alloc_heap_new (w.alloc (.cells #[.int .i64 (-1), .bool false, .bool false] 79)) (.cells #[.pointer (some ⟨w.heap.size, 0, none⟩)] 77)
      rwa [World.size_alloc] at this
    · rw [Below.heap_alloc _ _ _ (by simp)]
      have := World.alloc_heap_new ((w.alloc (.cells #[.int .i64 (-1), .bool false, .bool false] 79)).alloc (.cells #[.pointer (some ⟨w.heap.size, 0, none⟩)] 77)) (.map #[] 0)
      rwa [World.size_alloc, World.size_alloc] at this
    · unfold Boxed
      have := World.alloc_heap_new (((w.alloc (.cells #[.int .i64 (-1), .bool false, .bool false] 79)).alloc (.cells #[.pointer (some ⟨w.heap.size, 0, none⟩)] 77)).alloc (.map #[] 0)) (.cells #[.map (some (w.heap.size + 1 + 1))] 80)
      rwa [World.size_alloc, World.size_alloc, World.size_alloc] at this
  have hsz : ((((w.alloc (.cells #[.int .i64 (-1), .bool false, .bool false] 79)).alloc (.cells #[.pointer (some ⟨w.heap.size, 0, none⟩)] 77)).alloc (.map #[] 0)).alloc (.cells #[.map (some (w.heap.size + 1 + 1))] 80)).heap.size = w.heap.size + 4 := by simp
  have hsc0 := (unhide HSC).below hbel
  generalize ((((w.alloc (.cells #[.int .i64 (-1), .bool false, .bool false] 79)).alloc (.cells #[.pointer (some ⟨w.heap.size, 0, none⟩)] 77)).alloc (.map #[] 0)).alloc (.cells #[.map (some (w.heap.size + 1 + 1))] 80)) = W0 at hbel hI0 hsz hsc0 ⊢
  have hbw := unhide HBW
  refine wpIn_rangeBound rfl (by omega) (gf := 44) (rv := .pointer (some ⟨b, 0, none⟩)) rfl trivial (enters_of Tryd.func44 (by kernel_rfl) rfl) (encs := encsA) (fun _ => rfl) (b := b) (by omega) (xs := (attrsM t.data.toList k0).1) (E := fun W => Sc W b t (attrsM t.data.toList k0).2) (A := fun x => ∃ k k', attrM t.data.toList k = (some x, k')) (N := t.size + 1)
    (fun l J W _ hB hJm hY h0 => attributes_in (n - 1) (by omega) l b t (unhide HS) k0 (unhide HK) J hJm hY W (by unfold Sc; rw [hB.block b (by omega)]; exact hsc0) h0)
    (MetaI w b) (fun pre A B h hm => h.carry hbw hm) (fun pre W l o hl _ h => h.putL l o (by omega)) (fun W l o hl h => by unfold Sc; rw [World.putObj_heap_other (by omega)]; exact h) hI0
    (fun x => { tmps := #[.pointer (some ⟨b, 0, none⟩), undef, .int .i64 0, .bool false, .pointer (some ⟨w.heap.size + 1, 0, none⟩), .pointer (some ⟨w.heap.size + 1 + 1 + 1, 0, none⟩), .string ⟨x.1.toArray⟩, .string ⟨x.2.toArray⟩, .agg #[.int .i64 (-1), .bool false, .bool false], .pointer (some ⟨w.heap.size, 0, none⟩), .map (some (w.heap.size + 1 + 1)), .pointer (some ⟨b, 0, none⟩), .func (.func 44) #[.pointer (some ⟨b, 0, none⟩)] #[], .string ⟨x.1.toArray⟩, .string ⟨x.2.toArray⟩, undef, undef, undef, undef, undef, undef, undef, undef, undef, undef, undef, undef, undef, undef, undef, undef], defers := [] }) ?assign ?body ?done
  case assign =>
    intro l x W K hK
    unfold encsA
    gi_wp2
    exact hK
  case body =>
    rintro l pre x W hl ⟨kx, kx', hax⟩ hI hlt
    have HX := hide (attr_short hax)
    obtain ⟨x1, x2⟩ := x
    have hcc := hI.bc.cell
    have hcs := hI.bs.cell
    have hlk := hI.seen.look x1
    obtain ⟨o, hpo, hso⟩ := hI.seen.put x1
    have hcnt := stC_le pre x1
    have hlk2 := hso.look x1
    have hb1 : bump (stC pre).2 x1 x1 = (stC pre).2 x1 + 1 := by simp [bump]
    rw [hb1] at hlk2
    have hmod1 := Mod.setBlock (F := fun k => k = w.heap.size + 1 + 1) W (w.heap.size + 1 + 1) o rfl
    have hcl1 : Cl (Go.ChangeMaps.setBlock W (w.heap.size + 1 + 1) o) w.heap.size (stC pre).1 := hI.cl.of_block (hmod1.block _ hI.cl.lt (by omega))
    have hlt4 : w.heap.size + 1 + 1 + 1 < W.heap.size := by
      have := hI.bs
      unfold Boxed at this
      exact (Array.getElem?_eq_some_iff.1 this).1
    have hbc1 := Boxed.of_block hI.bc (hmod1.block _ (by omega) (by omega))
    have hbs1 := Boxed.of_block hI.bs (hmod1.block _ (by omega) (by omega))
    have hcc1 := hbc1.cell
    have hcs1 := hbs1.cell
    have hmo1 : Mod (· = b) w (Go.ChangeMaps.setBlock W (w.heap.size + 1 + 1) o) := ⟨hmod1.os.trans hI.mod.os, hmod1.tape.trans hI.mod.tape, hmod1.output.trans hI.mod.output, Nat.le_trans hI.mod.size hmod1.size, fun k h1 h2 => (hmod1.block k (Nat.lt_of_lt_of_le h1 hI.mod.size) (by omega)).trans (hI.mod.block k h1 h2)⟩
    have hb01 : (Go.ChangeMaps.setBlock W (w.heap.size + 1 + 1) o).heap[b]? = W.heap[b]? := hmod1.block _ (by omega) (by omega)
    have HIN : Hid (pre.length < t.size + 1) := hide hlt
    have hwr : IntKind.i64.wrap (((stC pre).2 x1 : Int) + 1) = (((stC pre).2 x1 : Int) + 1) := by
      have := unhide HS
      unfold Small at this
      exact wrap_add ((stC pre).2 x1 : Int) 1 (by omega) (by omega)
    have HST := hide (stC_snoc pre (x1, x2))
    unfold foldC at HST
    simp only at HST hlk2 hso
    have hsz1 : w.heap.size + 1 + 1 + 1 < (Go.ChangeMaps.setBlock W (w.heap.size + 1 + 1) o).heap.size := by have := hmod1.size; omega
    have hsm : Small ⟨x2.toArray⟩ := by
      have h8 := unhide HX
      have h9 := unhide HS
      unfold Small at h9 ⊢
      have h10 : (⟨x2.toArray⟩ : ByteArray).size = x2.length := by show x2.toArray.size = _; simp
      simp only [len_data] at h8
      rw [h10]
      omega
    have HH := hide (hear_any hcl1 (x1, x2) hsm (fun y hy => contentM_short hy))
    clear hsm
    have HMOD1 := hide hmod1
    generalize hWW : Go.ChangeMaps.setBlock W (w.heap.size + 1 + 1) o = W1 at *
    have HI := hide (And.intro hI (And.intro hso (And.intro hcl1 (And.intro hbc1 (And.intro hbs1 (And.intro hmo1 (And.intro hb01 hsz1)))))))
    have HSZ := hide hsz
    clear hI hso hcl1 hbc1 hbs1 hmo1 hb01 hax hlt hmod1 hI0 hbel hsc0 hb1 hWW hsz hlt4 hsz1 hcnt
    simp only at *
    by_cases h0 : (stC pre).2 x1 = 0
    · rw [if_pos h0] at HST
      rw [h0] at hlk hlk2 hpo
      simp only [Int.natCast_zero, Int.zero_add, Nat.zero_add, Int.natCast_one] at hlk hlk2 hpo
      clear h0 hwr
      iterate 38 (first | gi_guarded | gi_step | gi_upon)
      refine wpIn_cond_split rfl (fun _ => ?_) (fun h => by cases h)
      gi_wp2_with fail
      refine ⟨trivial, fun _ => by omega, (CallsIn.inRound l (callsIn_wide.2 (unhide HH))).mono ?_⟩
      rintro e w2 ⟨rfl, hcl2, hmod2⟩
      dsimp only
      gi_wp2
      obtain ⟨hI, hso, hcl1, hbc1, hbs1, hmo1, hb01, hsz1⟩ := unhide HI
      have hm1 := unhide HMOD1
      have hst := unhide HST
      refine ⟨trivial, (hm1.keeps (by intro k hk; have := unhide HSZ; omega)).trans (hmod2.keeps (by intro k hk; have := unhide HSZ; omega)), (hmod2.block b (by omega) (by omega)).trans hb01, ?_⟩
      refine ⟨by rw [hst]; exact hcl2, Boxed.of_block hbc1 (hmod2.block _ (by omega) (by omega)), by rw [hst]; exact hso.of_block (hmod2.block _ (by omega) (by omega)), Boxed.of_block hbs1 (hmod2.block _ (by omega) (by omega)), ?_⟩
      exact ⟨hmod2.os.trans hmo1.os, hmod2.tape.trans hmo1.tape, hmod2.output.trans hmo1.output, Nat.le_trans hmo1.size hmod2.size, fun k h1 h2 => (hmod2.block k (by omega) (by omega)).trans (hmo1.block k h1 h2)⟩
    · rw [if_neg h0] at HST
      have hne : (((stC pre).2 x1 : Int) + 1 == 1) = false := by simp; omega
      generalize (stC pre).2 x1 = cn at hlk hlk2 hwr hpo hne
      simp only [Int.natCast_add, Int.natCast_one] at hlk2
      clear h0
      iterate 38 (first | gi_guarded | gi_step | gi_upon)
      refine wpIn_cond_split rfl (fun h => by cases h) (fun _ => ?_)
      repeat gi_step
      obtain ⟨hI, hso, hcl1, hbc1, hbs1, hmo1, hb01, hsz1⟩ := unhide HI
      have hm1 := unhide HMOD1
      have hst := unhide HST
      refine ⟨trivial, hm1.keeps (by intro k hk; have := unhide HSZ; omega), hb01, ?_⟩
      exact ⟨by rw [hst]; exact hcl1, hbc1, by rw [hst]; exact hso, hbs1, hmo1⟩
  case done =>
    rintro D W hD hI hE hK
    have hcc := hI.bc.cell
    have HT := hide (told_any hI.cl)
    rw [(unhide HQ).1, (unhide HQ).2] at HT
    have HG : Hid (Gone w W b t (attrsM t.data.toList k0).2) := hide ⟨hE, hI.mod⟩
    have HSZ := hide hsz
    clear hI hE hI0 hsc0 hbel hsz
    gi_wp2_with fail
    refine ⟨trivial, fun _ => by omega, (callsIn_wide.2 (unhide HT)).mono ?_⟩
    rintro e w1 ⟨rfl, rfl⟩
    dsimp only
    gi_wp2
    refine ⟨by simp, .inl ⟨_, _, rfl, run_takeDeferred hK, ?_⟩⟩
    refine ⟨_, results_tmp2 rfl _ _ _, rfl, ?_⟩
    have hg := unhide HG
    have hsz := unhide HSZ
    refine ⟨?_, hg.mod.os, hg.mod.tape, hg.mod.output, Nat.le_trans hg.mod.size (by simp [World.putObj]), fun k h1 h2 => ?_⟩
    · unfold Sc
      rw [World.putObj_heap_other (by omega)]
      exact hg.sc
    · rw [World.putObj_heap_other (by omega)]
      exact hg.mod.block k h1 h2
end Go.Proofs.YtmikcdmlhocgbaaDoor
