/-
  The rest of a pick; Post.
-/
import Derived.Test.YtdfcdgjmjionbaaTg
namespace Go.Proofs.Ytdfcdgjmjionbaa
open Go.RowKit Go.Lib

/-- A pick among n places. -/
def restM (pick : Int) (n : Nat) : Int := if pick.tmod n < 0 then pick.tmod n + n else pick.tmod n
theorem tmod_lt (p : Int) {n : Nat} (hn : 0 < n) : -(n : Int) < p.tmod n ∧ p.tmod n < n := by
  have h1 := Int.tmod_lt_of_pos p (show (0 : Int) < n by omega)
  have h2 := Int.tmod_lt_of_pos (-p) (show (0 : Int) < n by omega)
  rw [Int.neg_tmod] at h2
  exact ⟨by omega, h1⟩
theorem restM_lt (p : Int) {n : Nat} (hn : 0 < n) : 0 ≤ restM p n ∧ restM p n < n := by
  have := tmod_lt p hn
  unfold restM
  split <;> omega

theorem rest_any (p : Int) (n : Nat) (hn : 0 < n) (h4 : n ≤ 4) (w : World) : Calls Try.prog 27 #[.int .i64 p, .int .i64 n] w fun e w' => e = .returned (.int .i64 (restM p n)) ∧ w = w' := by
  have hz : (n : Int) ≠ 0 := by omega
  have hz2 : ((n : Int) == 0) = false := by simpa using hz
  have ht := tmod_lt p hn
  have hw : IntKind.i64.wrap (p.tmod n) = p.tmod n := wrap_fit _ (by omega) (by omega)
  have hw2 : IntKind.i64.wrap (p.tmod n + n) = p.tmod n + n := wrap_fit _ (by omega) (by omega)
  have HR : Hid (restM p n = if p.tmod n < 0 then p.tmod n + n else p.tmod n) := hide rfl
  by_cases hlt : p.tmod n < 0
  · rw [if_pos hlt] at HR
    go_enter Try.func27, Try.ntmps27
    go_wp2
    go_ret
    exact ⟨by rw [unhide HR]; rfl, rfl⟩
  · rw [if_neg hlt] at HR
    go_enter Try.func27, Try.ntmps27
    go_wp2
    go_ret
    exact ⟨by rw [unhide HR]; rfl, rfl⟩

/-- A channel's line gets one more. -/
theorem QueS.put {w w' : World} {base bq : Nat} {qs : List (List Tk)} {F : Nat → Prop} (h : QueS w base bq qs F) {i c : Nat} {l : List Tk} {t : Tk} {x : TkV} {p : Nat} (hb : base ≤ w.heap.size)
    (hi : qs[i]? = some l) (hroom : l.length < 4096) {ps : List Nat} {s r : Nat} {w1 : World} (hb1 : Below w.heap.size w w1) {cs : List Nat} (hcl : cs.length = 4) (hnd : Apart cs) (hbq : w.heap[bq]? = some (.cells (cs.map chanV).toArray 56 (0, 0))) (hls : ∀ (i c : Nat) l, cs[i]? = some c → qs[i]? = some l → LineIn w F c l)
    (hci : cs[i]? = some c) (hc : w.heap[c]? = some (.chan 4096 (ps.map ptrV).toArray false s r false)) (hpl : ps.length = l.length) (hps : ∀ (j p : Nat) t, ps[j]? = some p → l[j]? = some t → BoxIn w F p t)
    (hx : TkIn w1 (fun k => w.heap.size ≤ k) t x) (hp : w1.heap.size ≤ p) (hpb : w'.heap[p]? = some (.cells x.cells 34 (0, 0))) (hcb : w'.heap[c]? = some (.chan 4096 ((ps.map ptrV).toArray.push (ptrV p)) false (s + 1) r false)) (hm : Mod (· = c) w1 w') :
    QueS w' base bq (qs.set i (l ++ [t])) (fun k => F k ∨ (w.heap.size ≤ k ∧ k < w'.heap.size)) := by
  have hsz : w.heap.size ≤ w'.heap.size := Nat.le_trans hb1.size hm.size
  have hc1 : w1.heap[c]? = _ := (hb1.block c (lt_of_block hc)).trans hc
  have hcF := (hls i c l hci hi).own
  have hG : ∀ k, F k → F k ∨ (w.heap.size ≤ k ∧ k < w'.heap.size) := fun k hk => .inl hk
  have box : ∀ q u, BoxIn w F q u → BoxIn w' (fun k => F k ∨ (w.heap.size ≤ k ∧ k < w'.heap.size)) q u := fun q u hq => ((hq.mod (G := fun _ => False) (Mod.of_below hb1) (fun _ _ e => e)).chan hc1 hm).mono (fun k _ hk => hG k hk)
  have hbqc : bq ≠ c := by rintro rfl; rw [hbq] at hc; cases hc
  have hbq1 : w1.heap[bq]? = _ := (hb1.block bq (lt_of_block hbq)).trans hbq
  refine ⟨fun k hk => ?_, .inl h.own, by rw [List.length_set]; exact h.len, cs, hcl, hnd, (hm.block bq (lt_of_block hbq1) hbqc).trans hbq1, fun j d k hj hk => ?_⟩
  · rcases hk with hk | ⟨h1, h2⟩
    · exact ⟨(h.lt k hk).1, Nat.lt_of_lt_of_le (h.lt k hk).2 hsz⟩
    · exact ⟨by omega, h2⟩
  · by_cases e : i = j
    · subst e
      rw [hci] at hj
      cases hj
      have hlt := (List.getElem?_eq_some_iff.1 hi).1
      rw [List.getElem?_set_self hlt] at hk
      cases hk
      refine ⟨.inl hcF, by simp; omega, ps ++ [p], s + 1, r, by rw [hcb]; simp, by simp [hpl], fun j q u hq hu => ?_⟩
      by_cases hjl : j < l.length
      · rw [List.getElem?_append_left (by omega)] at hq
        rw [List.getElem?_append_left hjl] at hu
        exact box q u (hps j q u hq hu)
      · rw [List.getElem?_append_right (by omega)] at hq hu
        have h1 := (List.getElem?_eq_some_iff.1 hu).1
        simp at h1
        obtain rfl : j = l.length := by omega
        simp [hpl] at hq hu
        subst hq hu
        have hxp := hx.chan hc1 hm
        exact ⟨.inr ⟨Nat.le_trans hb1.size hp, lt_of_block hpb⟩, x, hpb, hxp.mono (fun k hk h1 => .inr ⟨h1, hk⟩)⟩
    · rw [List.getElem?_set_ne e] at hk
      have hne : d ≠ c := by
        rintro rfl
        exact e (hnd i j d hci hj)
      exact (((hls j d k hj hk).mod (G := fun _ => False) (Mod.of_below hb1) (fun _ _ e => e)).other hne hc1 hm).mono (fun k _ hk => hG k hk)
end Go.Proofs.Ytdfcdgjmjionbaa
