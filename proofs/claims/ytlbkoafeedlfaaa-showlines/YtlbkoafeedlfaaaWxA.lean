/-
  Package show over trees of elements x: the stacks of spots, the trees, the builder, the writers of lines and tellNode.
-/
import Derived.Test.YtlbkoafeedlfaaaStk
import Derived.Test.YtlbkoafeedlfaaaTq
import Derived.Test.YtlbkoafeedlfaaaSn
import Derived.Lib.OthersKept
import Derived.Shelf.Strings.Builder1
import Derived.Shelf.Strings.Builder2
import Derived.Shelf.Strings.BuilderF
import Derived.Lib.UnsafeStr
import Derived.Lib.Builder
import Derived.Deep.RegionHeld3
import Derived.Lib.SmallJoins
import Derived.Deep.LoopGhost
import Derived.OwnWalk
import Derived.Laws.MakeOwn
namespace Go.Proofs.Ytlbkoafeedlfaaa
open Go.RowKit

theorem Try.info152 : (Try.prog.info? 152).map (fun i => (i.zero, i.size, i.bytes)) = some (some (.agg #[.int .i64 0, .int .i64 0]), 2, 16) := by kernel_rfl

set_option maxHeartbeats 1000000 in
theorem push_spot {w : World} {base b n : Nat} {xs : List Value} {F : Nat → Prop} (h : StS w base b 149 152 2 n xs F) (x y : Int) (hn : n ≤ 100000) :
    Calls Try.prog 113 #[.pointer (some ⟨b, 0, none⟩), .agg #[.int .i64 x, .int .i64 y]] w fun e w' => e = .returned (.tuple #[]) ∧ UpdSt F w w' base b 149 152 2 (n + 1) (xs ++ [.int .i64 x, .int .i64 y]) := by
  obtain ⟨v, h, hF⟩ := h
  obtain ⟨ga, cap, rfl, _⟩ := h.cut n (Nat.le_refl _)
  obtain ⟨i0, hi0, hz0, hz1, hz2⟩ := info_parts Try.info152
  have hc := h.cell
  have hfz := h.free
  have hlt := h.lt
  have hfar := h.far
  have HH := hide h
  have HFF := hide hF
  have HLO := hide h.lo
  have HR := hide h.row
  clear h hF
  go_enter Try.func113, Try.ntmps113
  go_wp2_with fail
  go_region_law ((refine step_append_lies _ (by rfl) _ _ _ (by rfl) base 152 i0 _ 2 16 Try.underlying147 hi0 hz0 hz1 hz2 rfl (by omega) (.slice ga n cap) n xs (by rfl) (by exact (((unhide HR).alloc _).drew).alloc _) ⟨w.heap.size + 1, 0, none⟩ 1 1 [.int .i64 x, .int .i64 y] (by rfl) (by rfl) (by have := two_news (w.alloc (.cells #[.int .i64 x, .int .i64 y] 152)) 152 (.int .i64 x) (.int .i64 y); rw [World.size_alloc] at this; exact this) (by simp [Value.oneCell']) (by omega) (by unfold maxLen; omega) (by omega) (by exact Nat.le_trans (unhide HLO) (by simp; omega)) (w.heap.size + 2) (by simp) ?_; intro g' cap' w1 hown1 hgrow hat hl1; have hc1 : w1.cell? ⟨b, 0, none⟩ = some (.slice ga n cap) := ((hgrow.cell_far ⟨b, 0, none⟩ (by simp; omega) (by intro e; first | exact hfar e | exact hfar e.symm)).trans (((Below.refl w.heap.size w).alloc (Nat.le_refl _) _).alloc (by simp) _ |>.drew.cell hlt |>.trans hc)); have hF1 : w1.frozen? ⟨b, 0, none⟩ = false := ((hgrow.frozen_far ⟨b, 0, none⟩ (by simp; omega) (by intro e; first | exact hfar e | exact hfar e.symm)).trans (((Below.refl w.heap.size w).alloc (Nat.le_refl _) _).alloc (by simp) _ |>.drew.frozen hlt |>.trans hfz))))
  all_goals
    have hB : Below w.heap.size w (((w.alloc (.cells #[.int .i64 x, .int .i64 y] 152)).alloc (.cells #[.int .i64 x, .int .i64 y] 152)).drew) := (((Below.refl w.heap.size w).alloc (Nat.le_refl _) _).alloc (by simp) _).drew
    have hh := (unhide HH).mod (Mod.of_below (F := fun _ => False) hB) (fun _ _ e => e)
    have R := hh.close (H := w.heap.size + 2) hgrow hown1 hat (by simp) (unhide HFF)
    obtain ⟨F', h1, h2, h3⟩ := R
    have R2 : UpdSt F w (w1.setCell ⟨b, 0, none⟩ (.slice (some ⟨g', 0, none⟩) (n + 1) cap')) base b 149 152 2 (n + 1) (xs ++ [.int .i64 x, .int .i64 y]) := ⟨F', h1, (Mod.of_below hB).trans h2, fun k hk => (h3 k hk).imp id (fun h => Nat.le_trans hB.size h)⟩
    go_end0
    exact ⟨rfl, R2⟩

theorem empty_spot {w : World} {base b n : Nat} {xs : List Value} {F : Nat → Prop} (h : StS w base b 149 152 2 n xs F) :
    Calls Try.prog 114 #[.pointer (some ⟨b, 0, none⟩)] w fun e w' => e = .returned (.bool (decide (n = 0))) ∧ w = w' := by
  obtain ⟨v, h, hF⟩ := h
  obtain ⟨ga, cap, rfl, _⟩ := h.cut n (Nat.le_refl _)
  have hc := h.cell
  clear h hF
  go_enter Try.func114, Try.ntmps114
  go_wp2
  go_ret
  have e : (((n : Nat) : Int) == 0) = decide (n = 0) := by rw [Bool.eq_iff_iff]; simp
  exact ⟨by simp [e], rfl⟩

set_option maxHeartbeats 1000000 in
theorem pop_spot {w : World} {base b n : Nat} {xs : List Value} {F : Nat → Prop} {x y : Int} (h : StS w base b 149 152 2 (n + 1) (xs ++ [.int .i64 x, .int .i64 y]) F) (hn : n ≤ 100000) :
    Calls Try.prog 115 #[.pointer (some ⟨b, 0, none⟩)] w fun e w' => e = .returned (.agg #[.int .i64 x, .int .i64 y]) ∧ UpdSt F w w' base b 149 152 2 n xs := by
  obtain ⟨v, h, hF⟩ := h
  obtain ⟨g, cap, rfl, hcap, hg, hj⟩ := h.at (by omega)
  have hlx : xs.length = n * 2 := by have := h.row.1; simp at this; omega
  have c0 : w.cell? ⟨g, n * 2, none⟩ = some (.int .i64 x) := by rw [hj _ (by omega), List.getElem?_append_right (by omega), hlx]; simp
  have c1 : w.cell? ⟨g, n * 2 + 1, none⟩ = some (.int .i64 y) := by rw [hj _ (by omega), List.getElem?_append_right (by omega), hlx]; simp
  have hc := h.cell
  have hfz := h.free
  have hlt := h.lt
  have HX := hide hlx
  have HH := hide h
  have HFF := hide hF
  clear h hF hj hlx
  go_enter Try.func115, Try.ntmps115
  go_wp2
  refine bodyPost_ret (v := .agg #[.int .i64 x, .int .i64 y]) (by simp [results, Try.results115, go_sem]) rfl ⟨rfl, ?_⟩
  have R := (unhide HH).short (unhide HFF) n (by omega) (Below.refl _ w)
  rw [List.take_left' (unhide HX)] at R
  exact (R.then ((Below.refl _ _).alloc (Nat.le_refl _) _)).then ((Below.refl _ _).alloc (Nat.le_refl _) _)

end Go.Proofs.Ytlbkoafeedlfaaa

namespace Go.Proofs.Ytlbkoafeedlfaaa
open Go.RowKit

def nameX : ByteArray := ⟨#[120]⟩
/-- Node i + 1 is an element x in node us[i]. -/
structure Built (os : List OneM) (us : List Nat) : Prop where
  len : os.length = us.length + 1
  root : ∃ o, os[0]? = some o ∧ o.kind = 0 ∧ o.up = -1 ∧ o.host = -1 ∧ o.inner = -1
  node : ∀ (i u : Nat), us[i]? = some u → u ≤ i ∧ ∃ o, os[i + 1]? = some o ∧ o.kind = 1 ∧ o.space = 0 ∧ o.name = nameX ∧ o.attrs = [] ∧ o.inner = -1 ∧ o.host = -1 ∧ o.up = (u : Int)

structure DepOk (us : List Nat) (ds : List Int) : Prop where
  len : ds.length = us.length + 1
  zero : ds[0]? = some (-1)
  more : ∀ (i u : Nat), us[i]? = some u → ∃ d, ds[u]? = some d ∧ -1 ≤ d ∧ ds[i + 1]? = some (d + 1)

theorem DepOk.start : DepOk [] [-1] := ⟨rfl, rfl, fun i u h => by simp at h⟩
theorem DepOk.low {us : List Nat} {ds : List Int} (h : DepOk us ds) (i : Nat) (d : Int) (hd : ds[i]? = some d) : -1 ≤ d := by
  cases i with
  | zero => rw [h.zero] at hd; cases hd; omega
  | succ i =>
    have hlt : i < us.length := by have := (List.getElem?_eq_some_iff.1 hd).1; have := h.len; omega
    obtain ⟨e, _, he, h2⟩ := h.more i _ (List.getElem?_eq_getElem hlt)
    rw [h2] at hd; cases hd; omega
theorem DepOk.step {us : List Nat} {ds : List Int} (h : DepOk us ds) (u : Nat) (d : Int) (hd : ds[u]? = some d) : DepOk (us ++ [u]) (ds ++ [d + 1]) := by
  have hl := h.len
  refine ⟨by simp [hl], ?_, ?_⟩
  · rw [List.getElem?_append_left (by omega)]; exact h.zero
  · intro i v hv
    by_cases hi : i < us.length
    · rw [List.getElem?_append_left hi] at hv
      obtain ⟨e, h1, h2, h3⟩ := h.more i v hv
      have hv2 := (List.getElem?_eq_some_iff.1 h1).1
      exact ⟨e, by rw [List.getElem?_append_left hv2]; exact h1, h2, by rw [List.getElem?_append_left (by omega)]; exact h3⟩
    · have hi2 : i = us.length := by
        have := (List.getElem?_eq_some_iff.1 hv).1
        simp at this; omega
      subst hi2
      simp at hv
      subst hv
      have hv2 := (List.getElem?_eq_some_iff.1 hd).1
      refine ⟨d, by rw [List.getElem?_append_left hv2]; exact hd, h.low _ _ hd, ?_⟩
      rw [List.getElem?_append_right (by omega), hl]; simp

theorem Built.upO {os : List OneM} {us : List Nat} (h : Built os us) (i : Nat) (hi : i < os.length) : (i = 0 ∧ upO os i = some (-1)) ∨ ∃ k u, i = k + 1 ∧ us[k]? = some u ∧ u ≤ k ∧ upO os i = some (u : Int) := by
  cases i with
  | zero =>
    obtain ⟨o, ho, _, h1, h2, _⟩ := h.root
    exact .inl ⟨rfl, by unfold Go.Proofs.Ytlbkoafeedlfaaa.upO; rw [ho]; simp [h1, h2]⟩
  | succ k =>
    have hk : k < us.length := by have := h.len; omega
    obtain ⟨hu, o, ho, _, _, _, _, _, _, hup⟩ := h.node k _ (List.getElem?_eq_getElem hk)
    refine .inr ⟨k, _, rfl, List.getElem?_eq_getElem hk, hu, ?_⟩
    unfold Go.Proofs.Ytlbkoafeedlfaaa.upO
    rw [ho]
    simp only [Option.map_some]
    rw [if_neg (by omega), hup]
theorem path_down {f : Nat → Option Int} (hf : ∀ i m, f i = some m → m < (i : Int)) : ∀ {l : List Nat} {k : Int}, PathOf f k l → ∀ x ∈ l, (x : Int) ≤ k
  | [], _, _, x, hx => by cases hx
  | i :: r, k, hp, x, hx => by
    obtain ⟨rfl, m, hm, hr⟩ := hp
    rcases List.mem_cons.1 hx with rfl | hx
    · exact Int.le_refl _
    · have h1 := path_down hf hr x hx
      have := hf i m hm
      omega
theorem Built.downs {os : List OneM} {us : List Nat} (h : Built os us) (q : OneM) (h1 : q.up = -1) (h2 : q.host = -1) : ∀ (i : Nat) (m : Int), Go.Proofs.Ytlbkoafeedlfaaa.upO (os ++ [q]) i = some m → m < (i : Int) := by
  intro i m hm
  by_cases hi : i < os.length
  · have e : Go.Proofs.Ytlbkoafeedlfaaa.upO (os ++ [q]) i = Go.Proofs.Ytlbkoafeedlfaaa.upO os i := by
      unfold Go.Proofs.Ytlbkoafeedlfaaa.upO; rw [List.getElem?_append_left hi]
    rw [e] at hm
    rcases h.upO i hi with ⟨rfl, e⟩ | ⟨k, u, rfl, _, hu, e⟩
    · rw [e] at hm; cases hm; omega
    · rw [e] at hm; cases hm; omega
  · unfold Go.Proofs.Ytlbkoafeedlfaaa.upO at hm
    by_cases hi2 : i = os.length
    · subst hi2
      simp [h1, h2] at hm
      omega
    · rw [List.getElem?_eq_none (by simp; omega)] at hm
      cases hm
theorem linkO_other (os : List OneM) (p c x : Nat) (b : Int) (o : OneM) (hx : x ≠ c) (ho : os[x]? = some o) : ∃ k, (linkO os p c b)[x]? = some { o with kids := k } := by
  unfold linkO
  rw [List.getElem?_modify, List.getElem?_modify, ho]
  simp only [Option.map_eq_map, Option.map_some]
  rw [if_neg (fun e => hx e.symm)]
  by_cases hp : p = x
  · rw [if_pos hp]; exact ⟨_, rfl⟩
  · rw [if_neg hp]; exact ⟨o.kids, rfl⟩
theorem linkO_self (os : List OneM) (p c : Nat) (b : Int) (o : OneM) (hp : p ≠ c) (ho : os[c]? = some o) : (linkO os p c b)[c]? = some { o with up := (p : Int) } := by
  unfold linkO
  rw [List.getElem?_modify, List.getElem?_modify, ho]
  simp only [Option.map_eq_map, Option.map_some, if_true, if_neg hp]

/-- One step more. -/
theorem Built.step {os : List OneM} {us : List Nat} (h : Built os us) (u : Nat) (hu : u ≤ us.length) (hn : us.length ≤ 100) :
    elemO os 0 nameX [] = (os ++ [elemQ 0 nameX []], (os.length : Int), 0) ∧ linkE (os ++ [elemQ 0 nameX []]) (u : Int) (os.length : Int) (-1) = 0 ∧
    Built (linkR (os ++ [elemQ 0 nameX []]) (u : Int) (os.length : Int) (-1)) (us ++ [u]) := by
  have hl := h.len
  have hE : elemO os 0 nameX [] = (os ++ [elemQ 0 nameX []], (os.length : Int), 0) := by
    unfold elemO addO
    rw [if_neg (by omega), if_neg (by decide), if_neg (by decide +kernel), if_pos (by omega)]
  have hlen1 : (os ++ [elemQ 0 nameX []]).length = os.length + 1 := by simp
  have hgetU : ∃ o, (os ++ [elemQ 0 nameX []])[u]? = some o ∧ (o.kind = 0 ∨ o.kind = 1) := by
    rw [List.getElem?_append_left (by omega)]
    cases u with
    | zero => obtain ⟨o, ho, hk, _⟩ := h.root; exact ⟨o, ho, .inl hk⟩
    | succ k =>
      obtain ⟨_, o, ho, hk, _⟩ := h.node k _ (List.getElem?_eq_getElem (by omega))
      exact ⟨o, ho, .inr hk⟩
  have hgetC : (os ++ [elemQ 0 nameX []])[os.length]? = some (elemQ 0 nameX []) := by simp
  have hL : linkE (os ++ [elemQ 0 nameX []]) (u : Int) (os.length : Int) (-1) = 0 := by
    have b1 : hasO (os ++ [elemQ 0 nameX []]) (u : Int) = true := by unfold hasO; rw [hlen1]; exact decide_eq_true (by omega)
    have b2 : hasO (os ++ [elemQ 0 nameX []]) (os.length : Int) = true := by unfold hasO; rw [hlen1]; exact decide_eq_true (by omega)
    have k1 : parentM (kindO (os ++ [elemQ 0 nameX []]) (u : Int)) = true := by
      obtain ⟨o, ho, hk⟩ := hgetU
      unfold kindO
      rw [Int.toNat_natCast, ho]
      rcases hk with hk | hk <;> simp [hk, parentM]
    have k2 : kindO (os ++ [elemQ 0 nameX []]) (os.length : Int) = 1 := by
      unfold kindO; rw [Int.toNat_natCast, hgetC]; rfl
    have k3 : upIO (os ++ [elemQ 0 nameX []]) (os.length : Int) = -1 := by
      unfold upIO; rw [Int.toNat_natCast, hgetC]; rfl
    have k4 : aboveO (os ++ [elemQ 0 nameX []]) (u : Int) (os.length : Int) = false := by
      rw [aboveO_eq, b1, b2, Bool.true_and, Bool.true_and]
      rw [decide_eq_false_iff_not]
      rintro ⟨path, hp, hin⟩
      have hle := path_down (h.downs (elemQ 0 nameX []) rfl rfl) hp
      unfold inPath at hin
      obtain ⟨x, hx, he⟩ := List.any_eq_true.1 hin
      have := hle x hx
      rw [beq_iff_eq] at he
      omega
    unfold linkE
    rw [b1, b2]
    rw [if_neg (by simp), if_neg (by rw [k1, k2]; simp), if_neg (by rw [k3, k4]; simp), if_neg (by simp)]
  refine ⟨hE, hL, ?_⟩
  unfold linkR
  rw [if_pos hL, Int.toNat_natCast, Int.toNat_natCast]
  have hlen2 : (linkO (os ++ [elemQ 0 nameX []]) u os.length (-1)).length = os.length + 1 := by unfold linkO; simp
  refine ⟨by rw [hlen2, hl]; simp, ?_, ?_⟩
  · obtain ⟨o, ho, r1, r2, r3, r4⟩ := h.root
    obtain ⟨k, hk⟩ := linkO_other (os ++ [elemQ 0 nameX []]) u os.length 0 (-1) o (by omega) (by rw [List.getElem?_append_left (by omega)]; exact ho)
    exact ⟨_, hk, r1, r2, r3, r4⟩
  · intro i v hv
    by_cases hi : i < us.length
    · rw [List.getElem?_append_left hi] at hv
      obtain ⟨h1, o, ho, r1, r2, r3, r4, r5, r6, r7⟩ := h.node i v hv
      obtain ⟨k, hk⟩ := linkO_other (os ++ [elemQ 0 nameX []]) u os.length (i + 1) (-1) o (by omega) (by rw [List.getElem?_append_left (by omega)]; exact ho)
      exact ⟨h1, _, hk, r1, r2, r3, r4, r5, r6, r7⟩
    · have hi2 : i = us.length := by
        have := (List.getElem?_eq_some_iff.1 hv).1
        simp at this; omega
      subst hi2
      simp at hv
      subst hv
      refine ⟨hu, { elemQ 0 nameX [] with up := (u : Int) }, ?_, rfl, rfl, rfl, rfl, rfl, rfl, rfl⟩
      have := linkO_self (os ++ [elemQ 0 nameX []]) u os.length (-1) _ (by omega) hgetC
      rw [hl] at this ⊢
      exact this

/-- Below the document each node is met once. -/
theorem Built.tops {ns : List NodeM} {os : List OneM} {us : List Nat} (h : Built os us) (hs : Sim ns os) : (TR os 0).Perm (List.range os.length) := by
  have hp := tops_perm hs
  have e : topsL os = [0] := by
    unfold topsL
    have hl := h.len
    rw [hl, List.range_succ_eq_map, List.filter_cons, if_pos (by
      rcases h.upO 0 (by omega) with ⟨_, e⟩ | ⟨k, u, e, _⟩
      · unfold topB; rw [e]; rfl
      · omega)]
    congr 1
    rw [List.filter_eq_nil_iff]
    intro x hx
    obtain ⟨k, hk, rfl⟩ := List.mem_map.1 hx
    have hk2 := List.mem_range.1 hk
    rcases h.upO (k + 1) (by omega) with ⟨e, _⟩ | ⟨k', u, e, _, _, e2⟩
    · omega
    · unfold topB
      show ¬ (Go.Proofs.Ytlbkoafeedlfaaa.upO os (k + 1) == some (-1)) = true
      rw [e2]
      intro hh
      have := beq_iff_eq.1 hh
      cases this
  rw [e] at hp
  simpa using hp

/-- What one line counts; what all do. -/
def fw (ds : List Int) (k : Nat) : Nat := 6 + 2 * ((ds[k]?).getD 0).toNat
theorem Built.total {ns : List NodeM} {os : List OneM} {us : List Nat} (h : Built os us) (hs : Sim ns os) (f : Nat → Nat) {o : OneM} (ho : os[0]? = some o) :
    ((o.kids.flatMap (TR os)).map f).sum = ((List.range us.length).map (fun k => f (k + 1))).sum ∧ (o.kids.flatMap (TR os)).length = us.length := by
  have hp := h.tops hs
  obtain ⟨o', ho', _, _, _, hin⟩ := h.root
  rw [ho] at ho'; cases ho'
  have e : TR os 0 = 0 :: o.kids.flatMap (TR os) := by
    rw [TR_some hs ho]
    unfold belowO innerL
    rw [if_pos hin, List.append_nil]
  have hl := h.len
  rw [e, hl, List.range_succ_eq_map] at hp
  have hp2 := List.Perm.cons_inv hp
  refine ⟨?_, by rw [hp2.length_eq]; simp⟩
  have := (hp2.map f).sum_nat
  rw [this, List.map_map]
  rfl
theorem Built.kids_dep {ns : List NodeM} {os : List OneM} {us : List Nat} {ds : List Int} (h : Built os us) (hs : Sim ns os) (hd : DepOk us ds) {j : Nat} {o : OneM} (ho : os[j]? = some o) {d : Int} (hj : ds[j]? = some d) : ∀ c ∈ o.kids, ds[c]? = some (d + 1) := by
  intro c hc
  obtain ⟨m, hm, hup⟩ := hs.down j o c ho hc
  cases c with
  | zero =>
    obtain ⟨o0, ho0, _, hu, _⟩ := h.root
    rw [hm] at ho0; cases ho0; omega
  | succ i =>
    have hi : i < us.length := by have := (List.getElem?_eq_some_iff.1 hm).1; have := h.len; omega
    obtain ⟨_, q, hq, _, _, _, _, _, _, hu⟩ := h.node i _ (List.getElem?_eq_getElem hi)
    rw [hm] at hq; cases hq
    have huj : us[i] = j := by omega
    obtain ⟨e, h1, _, h3⟩ := hd.more i _ (List.getElem?_eq_getElem hi)
    rw [huj, hj] at h1
    cases h1
    exact h3
end Go.Proofs.Ytlbkoafeedlfaaa

namespace Go.Proofs.Ytlbkoafeedlfaaa
open Go.RowKit

/-- Every block but those of S, and but rows of bytes, stands as it stood. -/
structure Kept (S : Nat → Prop) (B : Nat) (w w' : World) : Prop where
  below : Below B w w'
  size : w.heap.size ≤ w'.heap.size
  block : ∀ (k : Nat) (o : Obj), w.heap[k]? = some o → ¬ S k → (∀ c fz, o ≠ .cells c 5 fz) → w'.heap[k]? = some o

section
variable {S : Nat → Prop} {B : Nat} {w w1 w2 w' : World}
theorem Kept.refl (S : Nat → Prop) (B : Nat) (w : World) : Kept S B w w := ⟨Below.refl _ _, Nat.le_refl _, fun _ _ h _ _ => h⟩
theorem Kept.trans (h : Kept S B w w1) (k : Kept S B w1 w2) : Kept S B w w2 :=
  ⟨h.below.trans k.below, Nat.le_trans h.size k.size, fun i o hi hs ho => k.block i o (h.block i o hi hs ho) hs ho⟩
theorem Kept.of_below (hb : Below w.heap.size w w') (hB : B ≤ w.heap.size) : Kept S B w w' :=
  ⟨hb.mono hB, hb.size, fun k _ hk _ _ => (hb.block k (lt_of_block hk)).trans hk⟩
theorem Kept.cell (h : Kept S B w w') {b : Nat} {cs : Array Value} {t : TypeId} {fr : Nat × Nat} (hb : w.heap[b]? = some (.cells cs t fr)) (hs : ¬ S b) (ht : t ≠ 5) : w'.heap[b]? = some (.cells cs t fr) :=
  h.block b _ hb hs (fun c fz e => by injection e with _ e2; exact ht e2)

/-- A stack is as it was where what was written is neither its own nor of its kind. -/
theorem StS.kept {base b : Nat} {T E : TypeId} {sz n : Nat} {xs : List Value} {F : Nat → Prop} (h : StS w base b T E sz n xs F) (hk : Kept S B w w') (hT : T ≠ 5) (hE : E ≠ 5) (hS : ∀ k, F k → ¬ S k) : StS w' base b T E sz n xs F := by
  obtain ⟨v, h, hF⟩ := h
  refine ⟨v, ⟨hk.cell h.box (hS b ((hF b).2 (.inl rfl))) hT, ⟨h.row.1, ?_⟩, h.lo, h.ne⟩, hF⟩
  rcases h.row.2 with hn | ⟨g', cap', cur, rfl, hbb, hgg, rest⟩
  · exact .inl hn
  · exact .inr ⟨g', cap', cur, rfl, hbb, hk.cell hgg (hS g' ((hF g').2 (.inr rfl))) hE, rest⟩
/-- No block of a stack is a row of bytes. -/
theorem StS.kinds {base b : Nat} {T E : TypeId} {sz n : Nat} {xs : List Value} {F : Nat → Prop} (h : StS w base b T E sz n xs F) (hT : T ≠ 5) (hE : E ≠ 5) {k : Nat} (hk : F k) : ∀ c fz, w.heap[k]? ≠ some (.cells c 5 fz) := by
  obtain ⟨v, h, hF⟩ := h
  intro c fz e
  rcases (hF k).1 hk with rfl | hv
  · rw [h.box] at e; injection e with e; injection e with _ e2; exact hT e2
  · obtain ⟨cur, hc⟩ := ownsRow_block h.row hv
    rw [hc] at e; injection e with e; injection e with _ e2; exact hE e2
end

/-- Spots: a list of neighbours that stands for its first one, and how deep it stands. -/
def cellsS (E : List (List Nat × Nat)) : List Value := E.flatMap fun e => [.int .i64 (headI e.1), .int .i64 e.2]
def putS (E : List (List Nat × Nat)) (L : List Nat) (d : Nat) : List (List Nat × Nat) := if L = [] then E else E ++ [(L, d)]
theorem cellsS_len (E : List (List Nat × Nat)) : (cellsS E).length = E.length * 2 := by
  unfold cellsS
  induction E with
  | nil => rfl
  | cons e E ih => simp only [List.flatMap_cons, List.length_append, List.length_cons, ih]; show 2 + _ = _; omega

theorem put_spot {w : World} {base b : Nat} {E : List (List Nat × Nat)} {F : Nat → Prop} (h : StS w base b 149 152 2 E.length (cellsS E) F) (hn : E.length ≤ 10000) (L : List Nat) (d : Nat) :
    Calls Try.prog 112 #[.int .i64 (headI L), .int .i64 d, .pointer (some ⟨b, 0, none⟩)] w fun v w' => v = .returned (.tuple #[]) ∧ UpdSt F w w' base b 149 152 2 (putS E L d).length (cellsS (putS E L d)) := by
  cases L with
  | nil =>
    have HU : Hid (UpdSt F w w base b 149 152 2 (putS E [] d).length (cellsS (putS E [] d))) := hide (by
      unfold putS; rw [if_pos rfl]; exact ⟨F, h, ⟨rfl, rfl, rfl, Nat.le_refl _, fun _ _ _ => rfl⟩, fun k hk => .inl hk⟩)
    show Calls Try.prog 112 #[.int .i64 (-1), .int .i64 d, .pointer (some ⟨b, 0, none⟩)] w _
    clear h
    go_enter Try.func112, Try.ntmps112
    go_wp2
    go_end0
    exact ⟨rfl, unhide HU⟩
  | cons x L =>
    have e1 : putS E (x :: L) d = E ++ [(x :: L, d)] := by unfold putS; rw [if_neg (List.cons_ne_nil _ _)]
    have e2 : cellsS (E ++ [(x :: L, d)]) = cellsS E ++ [.int .i64 (x : Int), .int .i64 (d : Int)] := by unfold cellsS; rw [List.flatMap_append]; rfl
    have HP := hide (push_spot h (x : Int) (d : Int) (by omega))
    rw [e1, e2, List.length_append]
    have hne : (((x : Int)) != -1) = true := by rw [bne_iff_ne]; omega
    show Calls Try.prog 112 #[.int .i64 (x : Int), .int .i64 d, .pointer (some ⟨b, 0, none⟩)] w _
    clear h
    go_enter Try.func112, Try.ntmps112
    go_wp2_with (go_at_call 113; refine (unhide HP).mono ?_; rintro e w' ⟨rfl, hu⟩)
    go_end0
    exact ⟨rfl, hu⟩

/-- What is still to come: nodes, each once. -/
def restS (os : List OneM) (E : List (List Nat × Nat)) : List Nat := E.flatMap fun e => e.1.flatMap (TR os)
def GoodS (ns : List NodeM) (os : List OneM) (ds : List Int) (E : List (List Nat × Nat)) : Prop :=
  ∀ e ∈ E, e.1 ≠ [] ∧ PathOf (nextF ns) (headI e.1) e.1 ∧ ∀ j ∈ e.1, 0 < j ∧ j < os.length ∧ ds[j]? = some (e.2 : Int)
theorem GoodS.put {ns : List NodeM} {os : List OneM} {ds : List Int} {E : List (List Nat × Nat)} (h : GoodS ns os ds E) {L : List Nat} {d : Nat} (hp : PathOf (nextF ns) (headI L) L) (hd : ∀ j ∈ L, 0 < j ∧ j < os.length ∧ ds[j]? = some (d : Int)) : GoodS ns os ds (putS E L d) := by
  unfold putS
  split
  · exact h
  · intro e he
    rcases List.mem_append.1 he with he | he
    · exact h e he
    · rw [List.mem_singleton.1 he]; exact ⟨by assumption, hp, hd⟩
theorem rest_put (os : List OneM) (E : List (List Nat × Nat)) (L : List Nat) (d : Nat) : restS os (putS E L d) = restS os E ++ L.flatMap (TR os) := by
  unfold putS
  split
  · rename_i h; rw [h]; simp
  · unfold restS; simp
theorem put_len (E : List (List Nat × Nat)) (L : List Nat) (d : Nat) : (putS E L d).length ≤ E.length + 1 := by
  unfold putS; split <;> simp
end Go.Proofs.Ytlbkoafeedlfaaa

namespace Go.Proofs.Ytlbkoafeedlfaaa
open Go.RowKit

/-- The parts of an element x's line. -/
def PartsAt (w : World) (pb : Nat) : Prop := w.heap[pb]? = some (.cells #[.string ⟨#[60]⟩, .string ⟨#[]⟩, .string ⟨#[120]⟩, .string ⟨#[62]⟩] 9 (0, 0))
theorem PartsAt.cells {w : World} {pb : Nat} (h : PartsAt w pb) : w.cell? ⟨pb, 0, none⟩ = some (.string ⟨#[60]⟩) ∧ w.cell? ⟨pb, 1, none⟩ = some (.string ⟨#[]⟩) ∧ w.cell? ⟨pb, 2, none⟩ = some (.string ⟨#[120]⟩) ∧ w.cell? ⟨pb, 3, none⟩ = some (.string ⟨#[62]⟩) := by
  unfold PartsAt at h
  refine ⟨?_, ?_, ?_, ?_⟩ <;> simp [World.cell?, h]

set_option maxHeartbeats 1000000 in
theorem lineSize_at {w : World} {pb : Nat} (h : PartsAt w pb) (d : Nat) (hd : d ≤ 1000) :
    Calls Try.prog 75 #[.int .i64 d, .slice (some ⟨pb, 0, none⟩) 4 4] w fun e w' => e = .returned (.int .i64 (2 * (d : Int) + 6)) ∧ w' = w := by
  obtain ⟨c0, c1, c2, c3⟩ := h.cells
  have hdz : (d : Int) ≤ 1000 := by omega
  clear h hd
  go_enter Try.func75, Try.ntmps75
  go_wp2
  go_loopg [5, 14] 4 (fun k s5 s14 wx => ∃ i : Nat, i + k = 4 ∧ s14 = .int .i64 i ∧ wx = w ∧ s5 = .int .i64 (2 * (d : Int) + 3 + (if i = 0 then 0 else if i ≤ 2 then 1 else if i = 3 then 2 else 3)))
  case atStart => exact ⟨0, rfl, rfl, rfl, by simp; omega⟩
  case round =>
    obtain ⟨i, hik, rfl, rfl, rfl⟩ := hrel
    obtain rfl | rfl | rfl | rfl | rfl : i = 0 ∨ i = 1 ∨ i = 2 ∨ i = 3 ∨ i = 4 := by omega
    · go_wp2
      go_roundg 3
      case measure => omega
      case rel => exact ⟨1, rfl, by go_num, rfl, by go_num⟩
    · go_wp2
      go_roundg 2
      case measure => omega
      case rel => exact ⟨2, rfl, by go_num, rfl, by go_num⟩
    · go_wp2
      go_roundg 1
      case measure => omega
      case rel => exact ⟨3, rfl, by go_num, rfl, by go_num⟩
    · go_wp2
      go_roundg 0
      case measure => omega
      case rel => exact ⟨4, rfl, by go_num, rfl, by go_num⟩
    · go_wp2
      go_ret
      exact ⟨by simp; omega, rfl⟩

/-- The counter of the first round. -/
def SizeAt (sb : Nat) (a : Nat) (w : World) : Prop := w.heap[sb]? = some (.cells #[.int .i64 (a : Int)] 3 (0, 0))

set_option maxHeartbeats 1000000 in
theorem count_line {w : World} {pb sb a B : Nat} (hs : SizeAt sb a w) (hp : PartsAt w pb) (d : Nat) (hd : d ≤ 1000) (ha : a ≤ 1000000) (hB : B ≤ sb) :
    Calls Try.prog 74 #[.int .i64 d, .slice (some ⟨pb, 0, none⟩) 4 4, .pointer (some ⟨sb, 0, none⟩)] w fun e w' => e = .returned (.tuple #[]) ∧ SizeAt sb (a + (6 + 2 * d)) w' ∧ Kept (fun k => k = sb) B w w' := by
  have c0 : w.cell? ⟨sb, 0, none⟩ = some (.int .i64 (a : Int)) := by unfold SizeAt at hs; simp [World.cell?, hs]
  have f0 : w.frozen? ⟨sb, 0, none⟩ = false := by unfold SizeAt at hs; simp [World.frozen?, hs]
  have HL := hide (fun n => lineSize_at (w := w.drewN n) (pb := pb) (by exact hp) d hd)
  have HS := hide hs
  have hdz : (d : Int) ≤ 1000 := by omega
  have haz : (a : Int) ≤ 1000000 := by omega
  have hwr : IntKind.i64.wrap ((a : Int) + (2 * (d : Int) + 6)) = (a : Int) + (2 * (d : Int) + 6) := by rw [IntKind.wrap_i64]; omega
  have HR : Hid (∀ n, SizeAt sb (a + (6 + 2 * d)) ((w.drewN n).setCell ⟨sb, 0, none⟩ (.int .i64 ((a : Int) + (2 * (d : Int) + 6)))) ∧ Kept (fun k => k = sb) B w ((w.drewN n).setCell ⟨sb, 0, none⟩ (.int .i64 ((a : Int) + (2 * (d : Int) + 6))))) := hide (fun n => by
    have hs' : (w.drewN n).heap[sb]? = some (.cells #[.int .i64 (a : Int)] 3 (0, 0)) := hs
    constructor
    · have := heap_setCell_same (w.drewN n) sb 0 #[.int .i64 (a : Int)] 3 (.int .i64 ((a : Int) + (2 * (d : Int) + 6))) hs'
      unfold SizeAt
      rw [this]
      simp
      omega
    · refine ⟨?_, by simp, fun k o hk hne _ => ?_⟩
      · exact (below_drewN' (Below.refl B w) n).setCell (p := ⟨sb, 0, none⟩) hB _
      · rw [Below.heap_setCell _ _ _ _ (fun e => hne e)]
        exact hk)
  clear hs hp hd ha
  go_enter Try.func74, Try.ntmps74
  go_wp2_with fail
  go_region_with (go_at_call 75; refine (unhide HL _).mono ?_; rintro e w1 ⟨rfl, rfl⟩)
  all_goals (
    go_end0
    exact ⟨rfl, unhide HR 1⟩)
end Go.Proofs.Ytlbkoafeedlfaaa

namespace Go.Proofs
open Go.Shelf Go.RowKit
def Try.lays169_ren : Go.Shelf.Ren := ⟨fun | 169 => 78 | n => n, fun | 70 => 115 | 9 => 9 | 0 => 0 | 72 => 117 | 37 => 46 | 127 => 159 | 3 => 3 | 5 => 5 | n => n, fun | n => n⟩
theorem Try.lays169 : Go.Proofs.Lays.n169 Try.prog Try.lays169_ren := {
  mixed := by kernel_rfl
  f169 := Try.func78.trans (congrArg some (by kernel_rfl))
  t0 := Try.underlying0
  a0 := Try.isAgg0
  z0 := Try.sizeOf0
  v0 := Try.zeroValue0
  t3 := Try.underlying3
  a3 := Try.isAgg3
  z3 := Try.sizeOf3
  v3 := Try.zeroValue3
  t9 := Try.underlying9
  a9 := Try.isAgg9
  z9 := Try.sizeOf9
  v9 := Try.zeroValue9
  t37 := Try.underlying46
  a37 := Try.isAgg46
  z37 := Try.sizeOf46
  v37 := Try.zeroValue46
  t70 := Try.underlying115
  a70 := Try.isAgg115
  z70 := Try.sizeOf115
  v70 := Try.zeroValue115
  t72 := Try.underlying117
  a72 := Try.isAgg117
  z72 := Try.sizeOf117
  v72 := Try.zeroValue117
  t127 := Try.underlying159
  a127 := Try.isAgg159
  z127 := Try.sizeOf159
  v127 := Try.zeroValue159 }
theorem Try.Builder_Extra_169 : Builder.Extra Try.prog Try.lays169_ren := {
  sizeBuilder := by kernel_rfl
  liesBuilder := by kernel_rfl
  t5 := Try.underlying5
  a5 := Try.isAgg5
  z5 := Try.sizeOf5
  v5 := Try.zeroValue5
  infoByte := by kernel_rfl
  cellsByte := by kernel_rfl
  sizeByte := by kernel_rfl
  neB5 := by decide }
theorem Try.Builder_String_any_f (B b : Nat) (l : List UInt8) (w : World) (h : Lib.IsBuilderF 117 5 B b (Lib.byteCells l) w) (hBw : B ≤ w.heap.size) :
    Calls Try.prog 78 #[.pointer (some ⟨b, 0, none⟩)] w fun e w' => e = .returned (.string ⟨l.toArray⟩) ∧ (Lib.IsBuilderF 117 5 B b (Lib.byteCells l) w' ∧ Below B w w') := Any.Builder_String_any_f Try.lays169 Try.Builder_Extra_169 B b l w h hBw
def Try.lays165_ren : Go.Shelf.Ren := ⟨fun | 165 => 76 | 240 => 117 | 241 => 118 | 276 => 137 | 277 => 138 | n => n, fun | 70 => 115 | 3 => 3 | 0 => 0 | 4 => 4 | 9 => 9 | 20 => 20 | 72 => 117 | 37 => 46 | 164 => 174 | 5 => 5 | n => n, fun | n => n⟩
theorem Try.lays165 : Go.Proofs.Lays.n165 Try.prog Try.lays165_ren := {
  mixed := by kernel_rfl
  f165 := Try.func76.trans (congrArg some (by kernel_rfl))
  f240 := Try.func117.trans (congrArg some (by kernel_rfl))
  f241 := Try.func118.trans (congrArg some (by kernel_rfl))
  f276 := Try.func137.trans (congrArg some (by kernel_rfl))
  f277 := Try.func138.trans (congrArg some (by kernel_rfl))
  t0 := Try.underlying0
  a0 := Try.isAgg0
  z0 := Try.sizeOf0
  v0 := Try.zeroValue0
  t3 := Try.underlying3
  a3 := Try.isAgg3
  z3 := Try.sizeOf3
  v3 := Try.zeroValue3
  t4 := Try.underlying4
  a4 := Try.isAgg4
  z4 := Try.sizeOf4
  v4 := Try.zeroValue4
  t9 := Try.underlying9
  a9 := Try.isAgg9
  z9 := Try.sizeOf9
  v9 := Try.zeroValue9
  t20 := Try.underlying20
  a20 := Try.isAgg20
  z20 := Try.sizeOf20
  v20 := Try.zeroValue20
  t37 := Try.underlying46
  a37 := Try.isAgg46
  z37 := Try.sizeOf46
  v37 := Try.zeroValue46
  t70 := Try.underlying115
  a70 := Try.isAgg115
  z70 := Try.sizeOf115
  v70 := Try.zeroValue115
  t72 := Try.underlying117
  a72 := Try.isAgg117
  z72 := Try.sizeOf117
  v72 := Try.zeroValue117
  t164 := Try.underlying174
  a164 := Try.isAgg174
  z164 := Try.sizeOf174
  v164 := Try.zeroValue174 }
theorem Try.Builder_Extra_165 : Builder.Extra Try.prog Try.lays165_ren := {
  sizeBuilder := by kernel_rfl
  liesBuilder := by kernel_rfl
  t5 := Try.underlying5
  a5 := Try.isAgg5
  z5 := Try.sizeOf5
  v5 := Try.zeroValue5
  infoByte := by kernel_rfl
  cellsByte := by kernel_rfl
  sizeByte := by kernel_rfl
  neB5 := by decide }
theorem Try.Builder_Grow_fresh (B b n : Nat) (w : World) (hB : B ≤ b) (hbk : w.heap[b]? = some (.cells #[.pointer none, .slice none 0 0] 117 (0, 0))) (hBw : B ≤ w.heap.size) (hn : n ≤ 281474976710656) :
    Calls Try.prog 76 #[.pointer (some ⟨b, 0, none⟩), .int .i64 n] w fun e w' => e = .returned (.tuple #[]) ∧ (Lib.BuilderAt 117 5 B b (.pointer (some ⟨b, 0, none⟩)) [] w' ∧ Below B w w') := Any.Builder_Grow_fresh Try.lays165 Try.Builder_Extra_165 B b n w hB hbk hBw hn
end Go.Proofs
namespace Go.Proofs.Ytlbkoafeedlfaaa
open Go.RowKit

theorem Try.info5 : (Try.prog.info? 5).map (fun i => (i.zero, i.size, i.bytes)) = some (some (.int .u8 0), 1, 1) := by kernel_rfl

set_option maxRecDepth 100000 in
theorem checkUsed {w : World} {b : Nat} (h0 : w.cell? ⟨b, 0, none⟩ = some (.pointer (some ⟨b, 0, none⟩))) :
    Calls Try.prog 117 #[.pointer (some ⟨b, 0, none⟩)] w fun e w' => e = .returned (.tuple #[]) ∧ w = w' := by
  obtain ⟨j, hj, _⟩ := Option.map_eq_some_iff.1 (show (Try.prog.info? 117).map (·.size) = some 2 by kernel_rfl)
  go_enter Try.func117, Try.ntmps117
  go_wp2
  rw [Lib.run_neq_ptr_same w _ Try.underlying115 hj]
  go_wp2
  go_end0
  exact ⟨rfl, rfl⟩

set_option maxHeartbeats 1000000 in
set_option maxRecDepth 100000 in
theorem write_k (B b : Nat) (bs : List Value) (s : ByteArray) (w : World) (h : Lib.BuilderAtF 117 5 B b (.pointer (some ⟨b, 0, none⟩)) bs w) (hlen : bs.length + s.size ≤ 140737488355328) (hBw : B ≤ w.heap.size) :
    Calls Try.prog 120 #[.pointer (some ⟨b, 0, none⟩), .string s] w fun e w' => e = .returned (.tuple #[.int .i64 s.size, .nilIface]) ∧ (Lib.BuilderAtF 117 5 B b (.pointer (some ⟨b, 0, none⟩)) (bs ++ Lib.strCells s) w' ∧ Below B w w' ∧ Lib.OthersKept 5 (some b) w w' ∧ w.heap.size ≤ w'.heap.size) := by
  obtain ⟨i0, hi, hz0, hz1, hz2⟩ := info_parts Try.info5
  obtain ⟨hB, v, hbk, hown, hne⟩ := h
  have c0 : w.cell? ⟨b, 0, none⟩ = some (.pointer (some ⟨b, 0, none⟩)) := by rw [Lib.cell_of_heap hbk]; rfl
  have c1 : w.cell? ⟨b, 1, none⟩ = some v := by rw [Lib.cell_of_heap hbk]; rfl
  have HC := hide (checkUsed c0)
  go_enter Try.func120, Try.ntmps120
  go_wp2_with (first
    | (go_at_call 117; refine (unhide HC).mono ?_; rintro e w1 ⟨rfl, rfl⟩)
    | (at_builtin; refine Lib.wpList_append_own_stringF _ rfl _ _ 46 9 rfl B 5 i0 Try.underlying46 Try.underlying9 hi hz0 hz1 hz2 _ _ _ rfl hown s rfl ?c3 ?c4 ?c5 ?_))
  case c3 => unfold maxLen; omega
  case c4 => omega
  case c5 => omega
  intro v' w2 hown' hgrow _
  have hlt : b < w.heap.size := lt_of_block hbk
  have hb2 : w2.heap[b]? = some (.cells #[.pointer (some ⟨b, 0, none⟩), v] 117 (0, 0)) := by
    rw [hgrow.block b hlt (fun e => hne e.symm)]
    exact hbk
  have d0 : w2.cell? ⟨b, 0, none⟩ = some (.pointer (some ⟨b, 0, none⟩)) := by rw [Lib.cell_of_heap hb2]; rfl
  have d1 : w2.cell? ⟨b, 1, none⟩ = some v := by rw [Lib.cell_of_heap hb2]; rfl
  have f1 : w2.frozen? ⟨b, 1, none⟩ = false := Lib.frozen_of_heap hb2 1
  obtain ⟨ao, n', cap, rfl⟩ : ∃ ao n' cap, v' = .slice ao n' cap := by
    rcases hown'.2 with ⟨hv, _⟩ | ⟨g, cap, cur, fz, hv, _⟩
    · exact ⟨_, _, _, hv⟩
    · exact ⟨_, _, _, hv⟩
  go_wp2
  go_ret2
  refine ⟨rfl, ?_, ?_, ((Lib.OthersKept.refl 5 (some b) w).grown hgrow (Lib.ownsRowF_kind hown)).setCell ⟨b, 1, none⟩ rfl _, ?_⟩
  · exact Lib.BuilderAtF.put (T := 117) (e := 5) hB hb2 (bs' := bs ++ Lib.strCells s) (by simpa [Lib.strCells_length] using hown') (by decide)
  · exact ((Below.refl B w).grown hgrow hBw (fun k hk => (hown.lt k hk).1)).setCell (p := ⟨b, 1, none⟩) hB _
  · have := hgrow.size; simp; exact this
end Go.Proofs.Ytlbkoafeedlfaaa

namespace Go.Proofs.Ytlbkoafeedlfaaa
open Go.RowKit

def blank (m : Nat) : ByteArray := ⟨(List.replicate m 32).toArray⟩
theorem blank_list (m : Nat) : (blank m).data.toList = List.replicate m 32 := rfl
theorem blank_size (m : Nat) : (blank m).size = m := by show (List.replicate m (32 : UInt8)).toArray.size = m; simp
theorem list_inj {a b : ByteArray} (h : a.data.toList = b.data.toList) : a = b := by
  obtain ⟨⟨x⟩⟩ := a
  obtain ⟨⟨y⟩⟩ := b
  exact congrArg (fun l : List UInt8 => (⟨⟨l⟩⟩ : ByteArray)) h
theorem blank_twice (m : Nat) : blank m ++ blank m = blank (2 * m) := by
  apply list_inj
  rw [Joins.data_append, blank_list, blank_list, List.replicate_append_replicate, Nat.two_mul]
theorem blank_cut (m n : Nat) (h : n ≤ m) : (blank m).extract 0 n = blank n := by
  apply list_inj
  rw [Lib.extract_data, blank_list, blank_list]
  simp [Nat.min_eq_left h]

/-- The text so far, and the blanks that are kept. -/
structure TextAt (bb kb tb B : Nat) (l : List UInt8) (m : Nat) (w : World) : Prop where
  text : Lib.BuilderAtF 117 5 B bb (.pointer (some ⟨bb, 0, none⟩)) (Lib.byteCells l) w
  blanks : w.heap[kb]? = some (.cells #[.string (blank m)] 9 (0, 0))
  ptr : w.heap[tb]? = some (.cells #[.pointer (some ⟨bb, 0, none⟩)] 115 (0, 0))
  low : 2 ≤ m
  high : m ≤ 4096
  nk : kb ≠ bb
  nt : tb ≠ bb
  nkt : kb ≠ tb
  lk : B ≤ kb
  base : B ≤ w.heap.size

def own3 (bb kb : Nat) : Nat → Prop := fun k => k = bb ∨ k = kb

theorem Kept.others {bb kb B : Nat} {w w' : World} (h : Lib.OthersKept 5 (some bb) w w') (hb : Below B w w') (hs : w.heap.size ≤ w'.heap.size) : Kept (own3 bb kb) B w w' :=
  ⟨hb, hs, fun k o hk hne ho => h k o hk (fun e => hne (.inl (by injection e))) ho⟩

theorem Kept.drewn {S : Nat → Prop} {B : Nat} {w w' : World} (h : Kept S B w.drew w') : Kept S B w w' :=
  ⟨⟨h.below.os, h.below.tape, h.below.output, h.below.size, h.below.block⟩, h.size, h.block⟩

theorem write_t {bb kb tb B m : Nat} {l : List UInt8} {w : World} (h : TextAt bb kb tb B l m w) (s : ByteArray) (hl : l.length ≤ 10000000) (hs : s.size ≤ 10000) :
    Calls Try.prog 120 #[.pointer (some ⟨bb, 0, none⟩), .string s] w fun e w' => (∃ r, e = .returned r) ∧ TextAt bb kb tb B (l ++ s.data.toList) m w' ∧ Kept (own3 bb kb) B w w' := by
  refine (write_k B bb (Lib.byteCells l) s w h.text (by rw [show (Lib.byteCells l).length = l.length by simp [Lib.byteCells]]; omega) h.base).mono ?_
  rintro e w' ⟨rfl, hb, hbel, hk, hsz⟩
  have hk9 : w'.heap[kb]? = some (.cells #[.string (blank m)] 9 (0, 0)) := hk kb _ h.blanks (fun e => h.nk (by injection e)) (fun c fz e => by injection e with _ e2; cases e2)
  have hkt : w'.heap[tb]? = some (.cells #[.pointer (some ⟨bb, 0, none⟩)] 115 (0, 0)) := hk tb _ h.ptr (fun e => h.nt (by injection e)) (fun c fz e => by injection e with _ e2; cases e2)
  refine ⟨⟨_, rfl⟩, ⟨?_, hk9, hkt, h.low, h.high, h.nk, h.nt, h.nkt, h.lk, Nat.le_trans h.base hsz⟩, Kept.others hk hbel hsz⟩
  have : Lib.byteCells (l ++ s.data.toList) = Lib.byteCells l ++ Lib.strCells s := by simp [Lib.byteCells, Lib.strCells]
  rw [this]
  exact hb

/-- A builder is as it was where its block and the rows of bytes are. -/
theorem builder_keep {T : TypeId} {B b : Nat} {p : Value} {bs : List Value} {w w' : World} (h : Lib.BuilderAtF T 5 B b p bs w) (hb : w'.heap[b]? = w.heap[b]?) (h5 : ∀ (k : Nat) (c : Array Value) (fz : Nat × Nat), w.heap[k]? = some (Obj.cells c 5 fz) → w'.heap[k]? = some (Obj.cells c 5 fz)) : Lib.BuilderAtF T 5 B b p bs w' := by
  obtain ⟨hB, v, hv, hown, hne⟩ := h
  refine ⟨hB, v, by rw [hb]; exact hv, ⟨hown.1, ?_⟩, hne⟩
  rcases hown.2 with hn | ⟨g, cap, cur, fz, hvv, hbb, hgg, rest⟩
  · exact .inl hn
  · exact .inr ⟨g, cap, cur, fz, hvv, hbb, h5 g cur fz hgg, rest⟩
theorem TextAt.keep {bb kb tb B m : Nat} {l : List UInt8} {w w' : World} (h : TextAt bb kb tb B l m w) (h1 : w'.heap[bb]? = w.heap[bb]?) (h2 : w'.heap[kb]? = w.heap[kb]?) (h3 : w'.heap[tb]? = w.heap[tb]?) (h5 : ∀ (k : Nat) (c : Array Value) (fz : Nat × Nat), w.heap[k]? = some (Obj.cells c 5 fz) → w'.heap[k]? = some (Obj.cells c 5 fz)) (hs : w.heap.size ≤ w'.heap.size) : TextAt bb kb tb B l m w' :=
  ⟨builder_keep h.text h1 h5, by rw [h2]; exact h.blanks, by rw [h3]; exact h.ptr, h.low, h.high, h.nk, h.nt, h.nkt, h.lk, Nat.le_trans h.base hs⟩
theorem TextAt.double {bb kb tb B m : Nat} {l : List UInt8} {w : World} (h : TextAt bb kb tb B l m w) (hm : 2 * m ≤ 4096) :
    TextAt bb kb tb B l (2 * m) (w.setCell ⟨kb, 0, none⟩ (.string (blank m ++ blank m))) ∧ Kept (own3 bb kb) B w (w.setCell ⟨kb, 0, none⟩ (.string (blank m ++ blank m))) := by
  have hh : ∀ k, k ≠ kb → (w.setCell ⟨kb, 0, none⟩ (.string (blank m ++ blank m))).heap[k]? = w.heap[k]? := fun k hk => Below.heap_setCell _ _ _ _ hk
  have hk : (w.setCell ⟨kb, 0, none⟩ (.string (blank m ++ blank m))).heap[kb]? = some (.cells #[.string (blank (2 * m))] 9 (0, 0)) := by
    have := heap_setCell_same w kb 0 #[.string (blank m)] 9 (.string (blank m ++ blank m)) h.blanks
    rw [this, blank_twice]
    rfl
  refine ⟨⟨builder_keep h.text (hh bb (fun e => h.nk e.symm)) (fun k c fz hc => ?_), hk, by rw [hh tb (fun e => h.nkt e.symm)]; exact h.ptr, by have := h.low; omega, hm, h.nk, h.nt, h.nkt, h.lk, by simpa using h.base⟩, ?_⟩
  · rw [hh k (fun e => by subst e; rw [h.blanks] at hc; injection hc with hc; injection hc with _ e2; cases e2)]
    exact hc
  · exact ⟨(Below.refl B w).setCell (p := ⟨kb, 0, none⟩) h.lk _, by simp, fun k o ho hne _ => by rw [hh k (fun e => hne (.inr e))]; exact ho⟩

/-- The bytes of an element x's line. -/
def lineL (d : Nat) : List UInt8 := [124, 32] ++ List.replicate (2 * d) 32 ++ [60] ++ [120] ++ [62] ++ [10]

theorem PartsAt.kept {pb bb kb B : Nat} {w w' : World} (h : PartsAt w pb) (hk : Kept (own3 bb kb) B w w') (h1 : pb ≠ bb) (h2 : pb ≠ kb) : PartsAt w' pb :=
  hk.cell h (fun e => by rcases e with e | e <;> contradiction) (by decide)

set_option maxHeartbeats 2000000 in
theorem write_line {bb kb tb B m pb : Nat} {l : List UInt8} {w : World} (h : TextAt bb kb tb B l m w) (hp : PartsAt w pb) (h1 : pb ≠ bb) (h2 : pb ≠ kb) (d : Nat) (hd : d ≤ 1000) (hl : l.length ≤ 1000000) :
    Calls Try.prog 119 #[.int .i64 d, .slice (some ⟨pb, 0, none⟩) 4 4, .pointer (some ⟨kb, 0, none⟩), .pointer (some ⟨tb, 0, none⟩)] w fun e w' => e = .returned (.tuple #[]) ∧ (∃ m', TextAt bb kb tb B (l ++ lineL d) m' w') ∧ Kept (own3 bb kb) B w w' := by
  have hdz : (d : Int) ≤ 1000 := by omega
  obtain ⟨n2, hn2, hn2'⟩ : ∃ n2 : Nat, (d : Int) * 2 = (n2 : Int) ∧ n2 = 2 * d := ⟨2 * d, by omega, rfl⟩
  have HN2 := hide hn2'
  have hn2z : (n2 : Int) ≤ 2000 := by omega
  clear hn2'
  have HLEN := hide hl
  have HD := hide hd
  have HP := hide hp
  have HN := hide (And.intro h1 h2)
  have HT := hide h
  clear h hp hl hd h1 h2
  go_enter Try.func119, Try.ntmps119
  go_wp2
  have hhigh := (unhide HT).high
  go_loopg [] (4096 - m) (fun k wx => ∃ m, m + k = 4096 ∧ Hid (TextAt bb kb tb B l m wx ∧ Kept (own3 bb kb) B w wx))
  case atStart => exact ⟨m, by omega, hide ⟨unhide HT, Kept.refl _ _ _⟩⟩
  case round =>
    clear HT hhigh
    obtain ⟨m, hmk, HX⟩ := hrel
    have ck : wr.cell? ⟨kb, 0, none⟩ = some (.string (blank m)) := by have := (unhide HX).1.blanks; simp [World.cell?, this]
    have fk : wr.frozen? ⟨kb, 0, none⟩ = false := by have := (unhide HX).1.blanks; simp [World.frozen?, this]
    have ct : wr.cell? ⟨tb, 0, none⟩ = some (.pointer (some ⟨bb, 0, none⟩)) := by have := (unhide HX).1.ptr; simp [World.cell?, this]
    have hbs := blank_size m
    have hm4 : (m : Int) ≤ 4096 := by omega
    by_cases hc : m < n2
    · have hcz : (m : Int) < (n2 : Int) := by omega
      have HDB := hide ((unhide HX).1.double (by omega))
      go_wp2
      go_roundg (gk - m)
      case measure => have := (unhide HX).1.low; omega
      case rel => exact ⟨2 * m, by omega, hide ⟨(unhide HDB).1, (unhide HX).2.trans (unhide HDB).2⟩⟩
    · have hcz : ¬ (m : Int) < (n2 : Int) := by omega
      have hd2 : (n2 : Int) ≤ (m : Int) := by omega
      have HCUT := hide (blank_cut m n2 (by omega))
      have hd3 : (n2 : Int) ≤ ((blank m).size : Int) := by rw [blank_size]; omega
      have hd4 : n2 ≤ m := by omega
      have hd5 : n2 ≤ (blank m).size := by rw [blank_size]; omega
      have hd6 : (0 : Int) ≤ (n2 : Int) := by omega
      have hw1 : IntKind.i64.wrap ((d : Int) * 2) = (n2 : Int) := by rw [IntKind.wrap_i64]; omega
      have hw2 : IntKind.i64.wrap (n2 : Int) = (n2 : Int) := by rw [IntKind.wrap_i64]; omega
      go_wp2_with (go_at_call 120; refine (write_t (unhide HX).1 ⟨#[124, 32]⟩ (by have := unhide HLEN; omega) (by decide)).mono ?_; rintro e w1 ⟨⟨r1, rfl⟩, ht1, hk1⟩; have HX1 : Hid (TextAt bb kb tb B (l ++ [124, 32]) m w1 ∧ Kept (own3 bb kb) B w w1) := hide ⟨ht1, (unhide HX).2.trans hk1⟩; have ck1 : Hid (w1.cell? ⟨kb, 0, none⟩ = some (.string (blank m))) := hide (by have := ht1.blanks; simp [World.cell?, this]); have ct1 : Hid (w1.cell? ⟨tb, 0, none⟩ = some (.pointer (some ⟨bb, 0, none⟩))) := hide (by have := ht1.ptr; simp [World.cell?, this]); clear ht1 hk1)
      go_region_held3 (fun w' => w'.cell? ⟨kb, 0, none⟩ = some (.string (blank m)) ∧ w'.cell? ⟨tb, 0, none⟩ = some (.pointer (some ⟨bb, 0, none⟩))) (first | exact ⟨unhide ck1, unhide ct1⟩ | exact ⟨unhide ck2, unhide ct2⟩) (first | (go_at_call 120; rw [unhide HCUT]; refine (write_t (w := w1.drew) (l := l ++ [124, 32]) (m := m) (by exact (unhide HX1).1.keep rfl rfl rfl (fun _ _ _ h => h) (Nat.le_refl _)) (blank n2) (by have := unhide HLEN; simp; omega) (by rw [blank_size]; omega)).mono ?_; rintro e w2 ⟨⟨r2, rfl⟩, ht2, hk2⟩; have HX2 : Hid (TextAt bb kb tb B (l ++ [124, 32] ++ List.replicate n2 32) m w2 ∧ Kept (own3 bb kb) B w w2) := hide ⟨ht2, (unhide HX1).2.trans (Kept.drewn hk2)⟩; have ck2 : Hid (w2.cell? ⟨kb, 0, none⟩ = some (.string (blank m))) := hide (by have := ht2.blanks; simp [World.cell?, this]); have ct2 : Hid (w2.cell? ⟨tb, 0, none⟩ = some (.pointer (some ⟨bb, 0, none⟩))) := hide (by have := ht2.ptr; simp [World.cell?, this]); clear ht2 hk2))
      go_wp2
      have HLEN2 : Hid ((l ++ [124, 32] ++ List.replicate n2 32).length ≤ 2000000) := hide (by have := unhide HLEN; simp; omega)
      obtain ⟨l2, hl2⟩ : ∃ l2, l ++ [124, 32] ++ List.replicate n2 32 = l2 := ⟨_, rfl⟩
      rw [hl2] at HX2 HLEN2
      have HL2 := hide hl2
      clear hl2
      go_loopg [26] 4 (fun k s26 wx => ∃ i : Nat, i + k = 4 ∧ s26 = .int .i64 i ∧ Hid (TextAt bb kb tb B (l2 ++ if i = 0 then [] else if i ≤ 2 then [60] else if i = 3 then [60, 120] else [60, 120, 62]) m wx ∧ Kept (own3 bb kb) B w wx))
      case atStart => exact ⟨0, rfl, rfl, hide (by simpa using unhide HX2)⟩
      case round =>
        clear HX2 HX1 HX ck ct fk ck1 ct1 ck2 ct2
        obtain ⟨i, hik, rfl, HY⟩ := hrel
        have HPW := hide ((unhide HP).kept (unhide HY).2 (unhide HN).1 (unhide HN).2)
        obtain ⟨c0, c1, c2, c3⟩ := (unhide HPW).cells
        have ct : wr.cell? ⟨tb, 0, none⟩ = some (.pointer (some ⟨bb, 0, none⟩)) := by have := (unhide HY).1.ptr; simp [World.cell?, this]
        obtain rfl | rfl | rfl | rfl | rfl : i = 0 ∨ i = 1 ∨ i = 2 ∨ i = 3 ∨ i = 4 := by omega
        · go_wp2_with (go_at_call 120; refine (write_t (unhide HY).1 ⟨#[60]⟩ (by have := unhide HLEN2; simp; omega) (by decide)).mono ?_; rintro e w1 ⟨⟨r1, rfl⟩, ht1, hk1⟩; have HX1 := hide (And.intro ht1 ((unhide HY).2.trans hk1)); clear ht1 hk1)
          go_roundg 3
          case measure => omega
          case rel => exact ⟨1, rfl, by go_num, hide (by simpa using unhide HX1)⟩
        · go_wp2_with (go_at_call 120; refine (write_t (unhide HY).1 ⟨#[]⟩ (by have := unhide HLEN2; simp; omega) (by decide)).mono ?_; rintro e w1 ⟨⟨r1, rfl⟩, ht1, hk1⟩; have HX1 := hide (And.intro ht1 ((unhide HY).2.trans hk1)); clear ht1 hk1)
          go_roundg 2
          case measure => omega
          case rel => exact ⟨2, rfl, by go_num, hide (by simpa using unhide HX1)⟩
        · go_wp2_with (go_at_call 120; refine (write_t (unhide HY).1 ⟨#[120]⟩ (by have := unhide HLEN2; simp; omega) (by decide)).mono ?_; rintro e w1 ⟨⟨r1, rfl⟩, ht1, hk1⟩; have HX1 := hide (And.intro ht1 ((unhide HY).2.trans hk1)); clear ht1 hk1)
          go_roundg 1
          case measure => omega
          case rel => exact ⟨3, rfl, by go_num, hide (by simpa using unhide HX1)⟩
        · go_wp2_with (go_at_call 120; refine (write_t (unhide HY).1 ⟨#[62]⟩ (by have := unhide HLEN2; simp; omega) (by decide)).mono ?_; rintro e w1 ⟨⟨r1, rfl⟩, ht1, hk1⟩; have HX1 := hide (And.intro ht1 ((unhide HY).2.trans hk1)); clear ht1 hk1)
          go_roundg 0
          case measure => omega
          case rel => exact ⟨4, rfl, by go_num, hide (by simpa using unhide HX1)⟩
        · go_wp2_with (go_at_call 120; refine (write_t (unhide HY).1 ⟨#[10]⟩ (by have := unhide HLEN2; simp; omega) (by decide)).mono ?_; rintro e w1 ⟨⟨r1, rfl⟩, ht1, hk1⟩; have HX1 := hide (And.intro ht1 ((unhide HY).2.trans hk1)); clear ht1 hk1)
          go_end0
          refine ⟨rfl, ⟨m, ?_⟩, (unhide HX1).2⟩
          have e : l ++ lineL d = l2 ++ [60, 120, 62] ++ [10] := by
            rw [← unhide HL2, unhide HN2]
            simp [lineL]
          rw [e]
          simpa using (unhide HX1).1
end Go.Proofs.Ytlbkoafeedlfaaa

namespace Go.Proofs.Ytlbkoafeedlfaaa
open Go.RowKit

theorem word_html (w : World) : Calls Try.prog 135 #[.int .i64 0] w fun e w' => e = .returned (.string ⟨#[]⟩) ∧ w' = w := by
  go_enter Try.func135, Try.ntmps135
  go_wp2
  go_ret
  exact ⟨rfl, rfl⟩

theorem insertion0 (v f : Value) (w : World) : Calls Try.prog 162 #[v, .int .i64 0, .int .i64 0, f] w fun e w' => e = .returned (.tuple #[]) ∧ w' = w := by
  go_enter Try.func162, Try.ntmps162
  go_wp2
  go_loopg [8] 0 (fun _ s8 wx => s8 = .int .i64 1 ∧ wx = w)
  case atStart => exact ⟨rfl, rfl⟩
  case round =>
    obtain ⟨rfl, rfl⟩ := hrel
    go_wp2
    go_end0
    exact ⟨rfl, rfl⟩
theorem stable0 (v f : Value) (w : World) : Calls Try.prog 156 #[v, .int .i64 0, f] w fun e w' => e = .returned (.tuple #[]) ∧ w' = w := by
  have HI := hide (fun v f w => insertion0 v f w)
  go_enter Try.func156, Try.ntmps156
  go_wp2
  go_loopg [7, 8] 0 (fun _ s7 s8 wx => s7 = .int .i64 0 ∧ s8 = .int .i64 20 ∧ Hid (wx = w))
  case atStart => exact ⟨rfl, rfl, hide rfl⟩
  case round =>
    obtain ⟨rfl, rfl, HE⟩ := hrel
    go_wp2_with (go_at_call 162; refine (unhide HI _ _ _).mono ?_; rintro e w1 ⟨rfl, he1⟩; have HE1 : Hid (w1 = w) := hide (he1.trans (unhide HE)); clear he1)
    go_loopg [6] 0 (fun _ s6 wx => s6 = .int .i64 20 ∧ Hid (wx = w))
    case atStart => exact ⟨rfl, HE1⟩
    case round =>
      obtain ⟨rfl, HE2⟩ := hrel
      go_wp2
      go_end0
      exact ⟨rfl, unhide HE2⟩
theorem sort0 (g : Option Addr) (c : Nat) (f : Value) (w : World) : Calls Try.prog 149 #[.slice g 0 c, f] w fun e w' => e = .returned (.tuple #[]) ∧ w' = w := by
  have HI := hide (fun v f w => stable0 v f w)
  go_enter Try.func149, Try.ntmps149
  go_wp2_with (go_at_call 156; refine (unhide HI _ _ _).mono ?_; rintro e w1 ⟨rfl, rfl⟩)
  go_end0
  exact ⟨rfl, rfl⟩
theorem Try.info173 : (Try.prog.info? 173).map (fun i => (i.zero, i.size, i.bytes)) = some (some (.agg #[.string ⟨#[]⟩, .string ⟨#[]⟩]), 2, 32) := by kernel_rfl
theorem attrs0 (g : Option Addr) (c : Nat) (w : World) : Calls Try.prog 136 #[.slice g 0 c] w fun e w' => (∃ a c', e = .returned (.slice a 0 c')) ∧ Below w.heap.size w w' := by
  have HI := hide (fun g c f w => sort0 g c f w)
  obtain ⟨i0, hi0, hz0, hz1, hz2⟩ := info_parts Try.info173
  set_option maxRecDepth 10000 in
  go_enter Try.func136, Try.ntmps136
  set_option maxRecDepth 10000 in
  go_wp2_with (at_make; go_must (refine wpList_make_own _ rfl _ _ 170 rfl w.heap.size 173 i0 _ 2 Try.underlying170 hi0 hz0 hz1 _ _ _ 0 rfl rfl rfl (by rw [hz2]; omega) (by unfold maxLen; omega) (Nat.le_refl _) ?_); intro w1 hown1 hgrow1; have HG1 : Hid (Below w.heap.size w w1) := hide ((Below.refl _ w).grown hgrow1 (Nat.le_refl _) (by simp)); clear hown1 hgrow1)
  go_loopg [3, 11] 0 (fun _ s3 s11 wx => (∃ a c', s3 = .slice a 0 c') ∧ s11 = .int .i64 0 ∧ Below w.heap.size w wx)
  case atStart => exact ⟨⟨_, _, rfl⟩, rfl, unhide HG1⟩
  case round =>
    clear HG1
    obtain ⟨⟨a, c', rfl⟩, rfl, hb⟩ := hrel
    have HB := hide hb
    clear hb
    go_wp2_with (go_at_call 149; refine (unhide HI _ _ _ _).mono ?_; rintro e w2 ⟨rfl, rfl⟩)
    go_ret
    exact ⟨⟨_, _, rfl⟩, unhide HB⟩
end Go.Proofs.Ytlbkoafeedlfaaa

namespace Go.Proofs.Ytlbkoafeedlfaaa
open Go.RowKit

def St1 (sb B a : Nat) (w : World) : Prop := SizeAt sb a w ∧ B ≤ sb
def St2 (bb kb tb B : Nat) (l : List UInt8) (w : World) : Prop := ∃ m, TextAt bb kb tb B l m w

theorem St1.below {sb B a : Nat} {w W : World} (h : St1 sb B a w) (hb : Below w.heap.size w W) : St1 sb B a W :=
  ⟨by have := h.1; unfold SizeAt at this ⊢; rw [hb.block sb (lt_of_block this)]; exact this, h.2⟩
theorem St2.below {bb kb tb B : Nat} {l : List UInt8} {w W : World} (h : St2 bb kb tb B l w) (hb : Below w.heap.size w W) : St2 bb kb tb B l W := by
  obtain ⟨m, h⟩ := h
  obtain ⟨_, v, hv, _⟩ := h.text
  exact ⟨m, h.keep (hb.block bb (lt_of_block hv)) (hb.block kb (lt_of_block h.blanks)) (hb.block tb (lt_of_block h.ptr)) (fun k c fz hc => (hb.block k (lt_of_block hc)).trans hc) hb.size⟩
theorem St1.lt {sb B a : Nat} {w : World} (h : St1 sb B a w) : ∀ k, (fun k => k = sb) k → k < w.heap.size := by
  rintro k rfl; exact lt_of_block h.1
theorem St2.lt {bb kb tb B : Nat} {l : List UInt8} {w : World} (h : St2 bb kb tb B l w) : ∀ k, own3 bb kb k → k < w.heap.size := by
  obtain ⟨m, h⟩ := h
  obtain ⟨_, v, hv, _⟩ := h.text
  rintro k (rfl | rfl)
  · exact lt_of_block hv
  · exact lt_of_block h.blanks
theorem St1.size {sb B a : Nat} {w : World} (h : St1 sb B a w) : B ≤ w.heap.size := Nat.le_of_lt (Nat.lt_of_le_of_lt h.2 (lt_of_block h.1))
theorem St2.size {bb kb tb B : Nat} {l : List UInt8} {w : World} (h : St2 bb kb tb B l w) : B ≤ w.heap.size := by obtain ⟨m, h⟩ := h; exact h.base
/-- Where what was written is a stack's own, what a writer holds stands. -/
theorem St1.mod {sb B a : Nat} {w w' : World} {F : Nat → Prop} (h : St1 sb B a w) (hm : Mod F w w') (hF : ∀ k, F k → ¬ (fun k => k = sb) k) : St1 sb B a w' :=
  ⟨by have := h.1; unfold SizeAt at this ⊢; rw [hm.block sb (lt_of_block this) (fun e => hF sb e rfl)]; exact this, h.2⟩
theorem St2.mod {bb kb tb B : Nat} {l : List UInt8} {w w' : World} {F : Nat → Prop} (h : St2 bb kb tb B l w) (hm : Mod F w w') (hF : ∀ k, F k → ¬ own3 bb kb k) (ht : ¬ F tb) (h5 : ∀ k, F k → ∀ c fz, w.heap[k]? ≠ some (.cells c 5 fz)) : St2 bb kb tb B l w' := by
  obtain ⟨m, h⟩ := h
  obtain ⟨_, v, hv, _⟩ := h.text
  exact ⟨m, h.keep (hm.block bb (lt_of_block hv) (fun e => hF bb e (.inl rfl))) (hm.block kb (lt_of_block h.blanks) (fun e => hF kb e (.inr rfl))) (hm.block tb (lt_of_block h.ptr) ht)
    (fun k c fz hc => (hm.block k (lt_of_block hc) (fun e => h5 k e c fz hc)).trans hc) hm.size⟩

theorem line1 {sb B a pb : Nat} {w : World} (h : St1 sb B a w) (hp : PartsAt w pb) (_hne : ¬ (fun k => k = sb) pb) (d : Nat) (hd : d ≤ 1000) (ha : a ≤ 900000) :
    Calls Try.prog 74 #[.int .i64 d, .slice (some ⟨pb, 0, none⟩) 4 4, .pointer (some ⟨sb, 0, none⟩)] w fun e w' => e = .returned (.tuple #[]) ∧ St1 sb B (a + (6 + 2 * d)) w' ∧ Kept (fun k => k = sb) B w w' :=
  (count_line h.1 hp d hd (by omega) h.2).mono fun _ _ ⟨h1, h2, h3⟩ => ⟨h1, ⟨h2, h.2⟩, h3⟩
theorem line2 {bb kb tb B pb : Nat} {l : List UInt8} {w : World} (h : St2 bb kb tb B l w) (hp : PartsAt w pb) (hne : ¬ own3 bb kb pb) (d : Nat) (hd : d ≤ 1000) (hl : l.length ≤ 900000) :
    Calls Try.prog 119 #[.int .i64 d, .slice (some ⟨pb, 0, none⟩) 4 4, .pointer (some ⟨kb, 0, none⟩), .pointer (some ⟨tb, 0, none⟩)] w fun e w' => e = .returned (.tuple #[]) ∧ St2 bb kb tb B (l ++ lineL d) w' ∧ Kept (own3 bb kb) B w w' := by
  obtain ⟨m, h⟩ := h
  exact write_line h hp (fun e => hne (.inl e)) (fun e => hne (.inr e)) d hd (by omega)
end Go.Proofs.Ytlbkoafeedlfaaa

namespace Go.Proofs.Ytlbkoafeedlfaaa
open Go.RowKit

set_option maxHeartbeats 2000000 in
theorem tell1 {sb B a : Nat} {w : World} (h : St1 sb B a w) (g : Option Addr) (c : Nat) (dt sy : ByteArray) (pa fi la pr ne inn : Int) (d : Nat) (hd : d ≤ 1000) (hb : a ≤ 900000) :
    Calls Try.prog 116 #[.agg #[.int .i64 1, .int .i64 0, .string ⟨#[120]⟩, .slice g 0 c, .string dt, .string sy, .int .i64 pa, .int .i64 fi, .int .i64 la, .int .i64 pr, .int .i64 ne, .int .i64 inn], .int .i64 d, .func (.func 74) #[] #[.pointer (some ⟨sb, 0, none⟩)]] w fun e w' => e = .returned (.tuple #[]) ∧ St1 sb B (a + (6 + 2 * d)) w' ∧ Kept (fun k => k = sb) B w w' := by
  have HH := hide h
  have HD := hide hd
  have HB := hide hb
  have HW := hide word_html
  have HA := hide attrs0
  obtain ⟨bx, hbx⟩ : ∃ bx : Obj, Obj.cells #[.int .i64 1, .int .i64 0, .string ⟨#[120]⟩, .slice g 0 c, .string dt, .string sy, .int .i64 pa, .int .i64 fi, .int .i64 la, .int .i64 pr, .int .i64 ne, .int .i64 inn] 37 (0, 0) = bx := ⟨_, rfl⟩
  have HBX := hide hbx
  clear h hd hb hbx
  go_enter Try.func116, Try.ntmps116
  go_wp2
  have hbox := heap_alloc_new w (Obj.cells #[.int .i64 1, .int .i64 0, .string ⟨#[120]⟩, .slice g 0 c, .string dt, .string sy, .int .i64 pa, .int .i64 fi, .int .i64 la, .int .i64 pr, .int .i64 ne, .int .i64 inn] 37 (0, 0))
  have HSX := hide ((unhide HH).below ((Below.refl _ w).alloc (Nat.le_refl _) (Obj.cells #[.int .i64 1, .int .i64 0, .string ⟨#[120]⟩, .slice g 0 c, .string dt, .string sy, .int .i64 pa, .int .i64 fi, .int .i64 la, .int .i64 pr, .int .i64 ne, .int .i64 inn] 37 (0, 0))))
  have HKX : Hid (Kept (fun k => k = sb) B w (w.alloc (Obj.cells #[.int .i64 1, .int .i64 0, .string ⟨#[120]⟩, .slice g 0 c, .string dt, .string sy, .int .i64 pa, .int .i64 fi, .int .i64 la, .int .i64 pr, .int .i64 ne, .int .i64 inn] 37 (0, 0)))) := hide (Kept.of_below ((Below.refl _ w).alloc (Nat.le_refl _) _) (unhide HH).size)
  have hnS : ¬ (fun k => k = sb) w.heap.size := fun e => Nat.lt_irrefl _ ((unhide HH).lt _ e)
  have HNS := hide hnS
  clear hnS
  generalize w.alloc (Obj.cells #[.int .i64 1, .int .i64 0, .string ⟨#[120]⟩, .slice g 0 c, .string dt, .string sy, .int .i64 pa, .int .i64 fi, .int .i64 la, .int .i64 pr, .int .i64 ne, .int .i64 inn] 37 (0, 0)) = wx at hbox HSX HKX ⊢
  generalize w.heap.size = nb at hbox HNS ⊢
  have D1 : Hid (wx.cell? ⟨nb, 1, none⟩ = some (.int .i64 0)) := hide (by simp [World.cell?, hbox])
  have D2 : Hid (wx.cell? ⟨nb, 2, none⟩ = some (.string ⟨#[120]⟩)) := hide (by simp [World.cell?, hbox])
  have HBX := hide hbox
  have DB : Hid (∀ W : World, Below wx.heap.size wx W → W.cell? ⟨nb, 1, none⟩ = some (.int .i64 0) ∧ W.cell? ⟨nb, 2, none⟩ = some (.string ⟨#[120]⟩)) := hide (fun W hW => by
    have h2 := (hW.block nb (lt_of_block hbox)).trans hbox
    constructor <;> simp [World.cell?, h2])
  clear hbox
  go_region_held3 (fun w' => w'.cell? ⟨nb, 1, none⟩ = some (.int .i64 0) ∧ w'.cell? ⟨nb, 2, none⟩ = some (.string ⟨#[120]⟩)) (first | exact ⟨unhide D1, unhide D2⟩ | exact unhide DB _ (((Below.refl _ wx).drew).alloc (Nat.le_refl _) _) | exact unhide E12) (first
    | (go_at_call 135; refine (unhide HW _).mono ?_; rintro e w1 ⟨rfl, rfl⟩)
    | (go_at_call 74; refine (line1 ((unhide HSX).below (by exact ((Below.refl _ wx).drew).alloc (Nat.le_refl _) _)) (by exact heap_alloc_new _ _) (fun e => Nat.lt_irrefl _ ((unhide HSX).lt _ e)) d (unhide HD) (unhide HB)).mono ?_; rintro e w4 ⟨rfl, hs4, hk4⟩; have HS4 := hide hs4; have HK4 : Hid (Kept (fun k => k = sb) B wx w4) := hide ((Kept.of_below (((Below.refl _ wx).drew).alloc (Nat.le_refl _) _) (unhide HSX).size).trans hk4); have hbox4 := (unhide HK4).cell (unhide HBX) (unhide HNS) (by decide); have E12 : Hid (w4.cell? ⟨nb, 1, none⟩ = some (.int .i64 0) ∧ w4.cell? ⟨nb, 2, none⟩ = some (.string ⟨#[120]⟩)) := hide (by constructor <;> simp [World.cell?, hbox4]); have E3 : w4.cell? ⟨nb, 3, none⟩ = some (.slice g 0 c) := (by simp [World.cell?, hbox4]); clear hs4 hk4 hbox4))
  go_wp2_with (go_at_call 136; refine (unhide HA _ _ _).mono ?_; rintro e w5 ⟨⟨a5, c5, rfl⟩, hw5⟩; have HW5 := hide hw5; clear hw5)
  go_loopg [25] 0 (fun _ s25 wy => s25 = .int .i64 0 ∧ Hid (wy = w5))
  case atStart => exact ⟨rfl, hide rfl⟩
  case round =>
    obtain ⟨rfl, HE⟩ := hrel
    go_wp2
    go_end0
    rw [unhide HE]
    exact ⟨rfl, (unhide HS4).below (unhide HW5), ((unhide HKX).trans (unhide HK4)).trans (Kept.of_below (unhide HW5) (unhide HS4).size)⟩
set_option maxHeartbeats 2000000 in
theorem tell2 {bb kb tb B : Nat} {l : List UInt8} {w : World} (h : St2 bb kb tb B l w) (g : Option Addr) (c : Nat) (dt sy : ByteArray) (pa fi la pr ne inn : Int) (d : Nat) (hd : d ≤ 1000) (hb : l.length ≤ 900000) :
    Calls Try.prog 116 #[.agg #[.int .i64 1, .int .i64 0, .string ⟨#[120]⟩, .slice g 0 c, .string dt, .string sy, .int .i64 pa, .int .i64 fi, .int .i64 la, .int .i64 pr, .int .i64 ne, .int .i64 inn], .int .i64 d, .func (.func 119) #[] #[.pointer (some ⟨kb, 0, none⟩), .pointer (some ⟨tb, 0, none⟩)]] w fun e w' => e = .returned (.tuple #[]) ∧ St2 bb kb tb B (l ++ lineL d) w' ∧ Kept (own3 bb kb) B w w' := by
  have HH := hide h
  have HD := hide hd
  have HB := hide hb
  have HW := hide word_html
  have HA := hide attrs0
  obtain ⟨bx, hbx⟩ : ∃ bx : Obj, Obj.cells #[.int .i64 1, .int .i64 0, .string ⟨#[120]⟩, .slice g 0 c, .string dt, .string sy, .int .i64 pa, .int .i64 fi, .int .i64 la, .int .i64 pr, .int .i64 ne, .int .i64 inn] 37 (0, 0) = bx := ⟨_, rfl⟩
  have HBX := hide hbx
  clear h hd hb hbx
  go_enter Try.func116, Try.ntmps116
  go_wp2
  have hbox := heap_alloc_new w (Obj.cells #[.int .i64 1, .int .i64 0, .string ⟨#[120]⟩, .slice g 0 c, .string dt, .string sy, .int .i64 pa, .int .i64 fi, .int .i64 la, .int .i64 pr, .int .i64 ne, .int .i64 inn] 37 (0, 0))
  have HSX := hide ((unhide HH).below ((Below.refl _ w).alloc (Nat.le_refl _) (Obj.cells #[.int .i64 1, .int .i64 0, .string ⟨#[120]⟩, .slice g 0 c, .string dt, .string sy, .int .i64 pa, .int .i64 fi, .int .i64 la, .int .i64 pr, .int .i64 ne, .int .i64 inn] 37 (0, 0))))
  have HKX : Hid (Kept (own3 bb kb) B w (w.alloc (Obj.cells #[.int .i64 1, .int .i64 0, .string ⟨#[120]⟩, .slice g 0 c, .string dt, .string sy, .int .i64 pa, .int .i64 fi, .int .i64 la, .int .i64 pr, .int .i64 ne, .int .i64 inn] 37 (0, 0)))) := hide (Kept.of_below ((Below.refl _ w).alloc (Nat.le_refl _) _) (unhide HH).size)
  have hnS : ¬ (own3 bb kb) w.heap.size := fun e => Nat.lt_irrefl _ ((unhide HH).lt _ e)
  have HNS := hide hnS
  clear hnS
  generalize w.alloc (Obj.cells #[.int .i64 1, .int .i64 0, .string ⟨#[120]⟩, .slice g 0 c, .string dt, .string sy, .int .i64 pa, .int .i64 fi, .int .i64 la, .int .i64 pr, .int .i64 ne, .int .i64 inn] 37 (0, 0)) = wx at hbox HSX HKX ⊢
  generalize w.heap.size = nb at hbox HNS ⊢
  have D1 : Hid (wx.cell? ⟨nb, 1, none⟩ = some (.int .i64 0)) := hide (by simp [World.cell?, hbox])
  have D2 : Hid (wx.cell? ⟨nb, 2, none⟩ = some (.string ⟨#[120]⟩)) := hide (by simp [World.cell?, hbox])
  have HBX := hide hbox
  have DB : Hid (∀ W : World, Below wx.heap.size wx W → W.cell? ⟨nb, 1, none⟩ = some (.int .i64 0) ∧ W.cell? ⟨nb, 2, none⟩ = some (.string ⟨#[120]⟩)) := hide (fun W hW => by
    have h2 := (hW.block nb (lt_of_block hbox)).trans hbox
    constructor <;> simp [World.cell?, h2])
  clear hbox
  go_region_held3 (fun w' => w'.cell? ⟨nb, 1, none⟩ = some (.int .i64 0) ∧ w'.cell? ⟨nb, 2, none⟩ = some (.string ⟨#[120]⟩)) (first | exact ⟨unhide D1, unhide D2⟩ | exact unhide DB _ (((Below.refl _ wx).drew).alloc (Nat.le_refl _) _) | exact unhide E12) (first
    | (go_at_call 135; refine (unhide HW _).mono ?_; rintro e w1 ⟨rfl, rfl⟩)
    | (go_at_call 119; refine (line2 ((unhide HSX).below (by exact ((Below.refl _ wx).drew).alloc (Nat.le_refl _) _)) (by exact heap_alloc_new _ _) (fun e => Nat.lt_irrefl _ ((unhide HSX).lt _ e)) d (unhide HD) (unhide HB)).mono ?_; rintro e w4 ⟨rfl, hs4, hk4⟩; have HS4 := hide hs4; have HK4 : Hid (Kept (own3 bb kb) B wx w4) := hide ((Kept.of_below (((Below.refl _ wx).drew).alloc (Nat.le_refl _) _) (unhide HSX).size).trans hk4); have hbox4 := (unhide HK4).cell (unhide HBX) (unhide HNS) (by decide); have E12 : Hid (w4.cell? ⟨nb, 1, none⟩ = some (.int .i64 0) ∧ w4.cell? ⟨nb, 2, none⟩ = some (.string ⟨#[120]⟩)) := hide (by constructor <;> simp [World.cell?, hbox4]); have E3 : w4.cell? ⟨nb, 3, none⟩ = some (.slice g 0 c) := (by simp [World.cell?, hbox4]); clear hs4 hk4 hbox4))
  go_wp2_with (go_at_call 136; refine (unhide HA _ _ _).mono ?_; rintro e w5 ⟨⟨a5, c5, rfl⟩, hw5⟩; have HW5 := hide hw5; clear hw5)
  go_loopg [25] 0 (fun _ s25 wy => s25 = .int .i64 0 ∧ Hid (wy = w5))
  case atStart => exact ⟨rfl, hide rfl⟩
  case round =>
    obtain ⟨rfl, HE⟩ := hrel
    go_wp2
    go_end0
    rw [unhide HE]
    exact ⟨rfl, (unhide HS4).below (unhide HW5), ((unhide HKX).trans (unhide HK4)).trans (Kept.of_below (unhide HW5) (unhide HS4).size)⟩
end Go.Proofs.Ytlbkoafeedlfaaa

namespace Go.Proofs.Ytlbkoafeedlfaaa
open Go.RowKit

def cnt10 (l : List UInt8) : Nat := (l.filter (· == 10)).length
theorem line_len (d : Nat) : (lineL d).length = 6 + 2 * d := by simp [lineL]; omega
theorem line_cnt (d : Nat) : cnt10 (lineL d) = 1 := by
  unfold cnt10 lineL
  simp only [List.filter_append, List.length_append]
  have : (List.replicate (2 * d) (32 : UInt8)).filter (· == 10) = [] := by
    rw [List.filter_eq_nil_iff]
    intro x hx
    rw [(List.mem_replicate.1 hx).2]
    decide
  rw [this]
  rfl

/-- A bytes' length, and the line ends among them. -/
def X1 (sb B a A : Nat) (_C : Nat) (w : World) : Prop := St1 sb B (a + A) w
def X2 (bb kb tb B : Nat) (l : List UInt8) (A C : Nat) (w : World) : Prop := ∃ T, St2 bb kb tb B (l ++ T) w ∧ T.length = A ∧ cnt10 T = C

section
variable {sb B a A C bb kb tb : Nat} {l : List UInt8} {w w' : World}
theorem X1.below (h : X1 sb B a A C w) (hb : Below w.heap.size w w') : X1 sb B a A C w' := St1.below h hb
theorem X2.below (h : X2 bb kb tb B l A C w) (hb : Below w.heap.size w w') : X2 bb kb tb B l A C w' := by
  obtain ⟨T, h1, h2, h3⟩ := h; exact ⟨T, h1.below hb, h2, h3⟩
theorem X1.size (h : X1 sb B a A C w) : B ≤ w.heap.size := St1.size h
theorem X2.size (h : X2 bb kb tb B l A C w) : B ≤ w.heap.size := by obtain ⟨T, h1, _⟩ := h; exact h1.size
theorem X1.lt (h : X1 sb B a A C w) : ∀ k, (fun k => k = sb ∨ k = sb) k → k < w.heap.size := fun k hk => St1.lt h k (by rcases hk with e | e <;> exact e)
theorem X2.lt (h : X2 bb kb tb B l A C w) : ∀ k, (own3 bb kb k ∨ k = tb) → k < w.heap.size := by
  obtain ⟨T, h1, _⟩ := h
  rintro k (hk | rfl)
  · exact h1.lt k hk
  · obtain ⟨m, h⟩ := h1; exact lt_of_block h.ptr
theorem X1.mod {F : Nat → Prop} (h : X1 sb B a A C w) (hm : Mod F w w') (hF : ∀ k, F k → ¬ (fun k => k = sb ∨ k = sb) k) (_h5 : ∀ k, F k → ∀ c fz, w.heap[k]? ≠ some (.cells c 5 fz)) : X1 sb B a A C w' := St1.mod h hm (fun k hk e => hF k hk (.inl e))
theorem X2.mod {F : Nat → Prop} (h : X2 bb kb tb B l A C w) (hm : Mod F w w') (hF : ∀ k, F k → ¬ (own3 bb kb k ∨ k = tb)) (h5 : ∀ k, F k → ∀ c fz, w.heap[k]? ≠ some (.cells c 5 fz)) : X2 bb kb tb B l A C w' := by
  obtain ⟨T, h1, h2, h3⟩ := h
  exact ⟨T, h1.mod hm (fun k hk e => hF k hk (.inl e)) (fun e => hF tb e (.inr rfl)) h5, h2, h3⟩

/-- Blocks of the entry world stay where only newer ones were written. -/
theorem Kept.mod {S : Nat → Prop} {F : Nat → Prop} {wr w1 : World} (h : Kept S B w wr) (hm : Mod F wr w1) (hF : ∀ k, F k → w.heap.size ≤ k) (hB : B ≤ w.heap.size) : Kept S B w w1 := by
  refine ⟨h.below.trans ⟨hm.os, hm.tape, hm.output, hm.size, fun k hk => hm.block k (Nat.lt_of_lt_of_le hk (Nat.le_trans hB h.size)) (fun e => by have := hF k e; omega)⟩, Nat.le_trans h.size hm.size, fun k o hk hs ho => ?_⟩
  have h1 := h.block k o hk hs ho
  rw [hm.block k (lt_of_block h1) (fun e => by have := hF k e; have := lt_of_block hk; omega)]
  exact h1
end

theorem tellX1 {sb B a A C : Nat} {w : World} (h : X1 sb B a A C w) (g : Option Addr) (c : Nat) (dt sy : ByteArray) (pa fi la pr ne inn : Int) (d : Nat) (hd : d ≤ 1000) (hb : a + A ≤ 900000) :
    Calls Try.prog 116 #[.agg #[.int .i64 1, .int .i64 0, .string ⟨#[120]⟩, .slice g 0 c, .string dt, .string sy, .int .i64 pa, .int .i64 fi, .int .i64 la, .int .i64 pr, .int .i64 ne, .int .i64 inn], .int .i64 d, .func (.func 74) #[] #[.pointer (some ⟨sb, 0, none⟩)]] w fun e w' => e = .returned (.tuple #[]) ∧ X1 sb B a (A + (6 + 2 * d)) (C + 1) w' ∧ Kept (fun k => k = sb ∨ k = sb) B w w' :=
  (tell1 h g c dt sy pa fi la pr ne inn d hd hb).mono fun _ _ ⟨h1, h2, h3⟩ => ⟨h1, by unfold X1; rw [← Nat.add_assoc]; exact h2, ⟨h3.below, h3.size, fun k o hk hs ho => h3.block k o hk (fun e => hs (.inl e)) ho⟩⟩
theorem tellX2 {bb kb tb B A C : Nat} {l : List UInt8} {w : World} (h : X2 bb kb tb B l A C w) (g : Option Addr) (c : Nat) (dt sy : ByteArray) (pa fi la pr ne inn : Int) (d : Nat) (hd : d ≤ 1000) (hb : l.length + A ≤ 900000) :
    Calls Try.prog 116 #[.agg #[.int .i64 1, .int .i64 0, .string ⟨#[120]⟩, .slice g 0 c, .string dt, .string sy, .int .i64 pa, .int .i64 fi, .int .i64 la, .int .i64 pr, .int .i64 ne, .int .i64 inn], .int .i64 d, .func (.func 119) #[] #[.pointer (some ⟨kb, 0, none⟩), .pointer (some ⟨tb, 0, none⟩)]] w fun e w' => e = .returned (.tuple #[]) ∧ X2 bb kb tb B l (A + (6 + 2 * d)) (C + 1) w' ∧ Kept (fun k => own3 bb kb k ∨ k = tb) B w w' := by
  obtain ⟨T, h1, h2, h3⟩ := h
  refine (tell2 h1 g c dt sy pa fi la pr ne inn d hd (by rw [List.length_append]; omega)).mono fun _ _ ⟨q1, q2, q3⟩ => ⟨q1, ⟨T ++ lineL d, by rw [← List.append_assoc]; exact q2, by rw [List.length_append, line_len, h2], ?_⟩, ⟨q3.below, q3.size, fun k o hk hs ho => q3.block k o hk (fun e => hs (.inl e)) ho⟩⟩
  unfold cnt10 at *
  rw [List.filter_append, List.length_append, h3]
  have := line_cnt d
  unfold cnt10 at this
  rw [this]
theorem Built.dep_le {os : List OneM} {us : List Nat} {ds : List Int} (h : Built os us) (hd : DepOk us ds) : ∀ (i : Nat) (d : Int), ds[i]? = some d → d + 1 ≤ (i : Int) := by
  intro i
  induction i using Nat.strongRecOn with
  | _ i ih =>
    intro d hdi
    cases i with
    | zero => rw [hd.zero] at hdi; cases hdi; omega
    | succ i =>
      have hi : i < us.length := by have := (List.getElem?_eq_some_iff.1 hdi).1; have := hd.len; omega
      obtain ⟨e, h1, _, h3⟩ := hd.more i _ (List.getElem?_eq_getElem hi)
      obtain ⟨hu, _⟩ := h.node i _ (List.getElem?_eq_getElem hi)
      rw [h3] at hdi; cases hdi
      have := ih _ (by omega) e h1
      omega
theorem rest_ge {ns : List NodeM} {os : List OneM} {ds : List Int} (hs : Sim ns os) : ∀ (E : List (List Nat × Nat)), GoodS ns os ds E → E.length ≤ (restS os E).length
  | [], _ => Nat.zero_le _
  | e :: E, h => by
    have ih := rest_ge hs E (fun q hq => h q (List.mem_cons_of_mem _ hq))
    obtain ⟨hne, _, hj⟩ := h e (by simp)
    have h1 : 1 ≤ (e.1.flatMap (TR os)).length := by
      cases hL : e.1 with
      | nil => exact absurd hL hne
      | cons j R =>
        have := TR_self hs (hj j (by rw [hL]; simp)).2.1
        rw [List.flatMap_cons, List.length_append]
        have : 0 < (TR os j).length := List.length_pos_of_mem this
        omega
    unfold restS at *
    rw [List.flatMap_cons, List.length_append, List.length_cons]
    omega
theorem put_spotI {w : World} {base b : Nat} {E : List (List Nat × Nat)} {F : Nat → Prop} (h : StS w base b 149 152 2 E.length (cellsS E) F) (hn : E.length ≤ 10000) (L : List Nat) (d : Nat) (dz : Int) (hdz : dz = (d : Int)) :
    Calls Try.prog 112 #[.int .i64 (headI L), .int .i64 dz, .pointer (some ⟨b, 0, none⟩)] w fun v w' => v = .returned (.tuple #[]) ∧ UpdSt F w w' base b 149 152 2 (putS E L d).length (cellsS (putS E L d)) := by
  subst hdz; exact put_spot h hn L d
theorem path_first {f : Nat → Option Int} {k : Int} {l : List Nat} (h : PathOf f k l) : k = headI l := by
  cases l with
  | nil => exact h
  | cons x l => exact h.1
end Go.Proofs.Ytlbkoafeedlfaaa
