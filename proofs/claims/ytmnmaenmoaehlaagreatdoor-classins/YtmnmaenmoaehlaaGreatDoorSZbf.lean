/-
  What is in a node, as text: inside. What is in any node of a tree, as text: inside, which comes back to itself.
-/
import Derived.Test.YtmnmaenmoaehlaaGreatDoorSZbe
namespace Go.Proofs.YtmnmaenmoaehlaaGreatDoor
open Go.RowKit Go.Lib

set_option maxHeartbeats 4000000 in
theorem inside_void {W0 : World} {bA : Nat} {sc : Bool} {bw : Nat} (n : NodeM) (cost : Nat) (hv : (htmlM n.kind n.space && hasN voids n.name) = true) : InsC W0 bA sc bw n [] cost := by
  intro w t a cap hb hw hlen
  have hB := hb.size
  have hn0 : Nx W0.heap.size bw w (w.alloc (nodeB n a cap)) := (Nx.refl _ bw w).alloc hB _
  have HV := hidE (fun W => isVoid_any n a cap W)
  rw [hv] at HV
  have HN0 := hidE hn0
  have HW0 := hidE (hw.alloc (nodeB n a cap))
  unfold nodeB at HN0 HW0
  clear hw hlen hn0 hv
  go_enter Tryz.func47, Tryz.ntmps47
  go_wp2_with (go_at_call 68; refine ((unhidE HV) _).mono ?_; rintro e w4 ⟨rfl, hb4⟩; have HB4 := hidE hb4; clear hb4)
  refine bodyPost_ret (results_none rfl _ _ _) rfl ?_
  exact ⟨rfl, by rw [List.append_nil]; exact (unhidE HW0).more (unhidE HB4), (unhidE HN0).trans (Nx.new (unhidE HB4) (Nat.le_trans hB (unhidE HN0).size))⟩

def kidX (ns : List NodeM) (T : Nat → List UInt8) (pl : Bool) (k : Nat) : List UInt8 := match ns[k]? with | none => [] | some m => nodeM (T k) m pl
def kidC (ns : List NodeM) (C : Nat → Nat) (k : Nat) : Nat := match ns[k]? with | none => 0 | some m => costM m + C k

theorem nodeM_len (inn : List UInt8) (n : NodeM) (pl : Bool) : (nodeM inn n pl).length ≤ costM n + inn.length := by
  unfold nodeM elemM costM
  have h1 := tagL_len n.name n.attrs
  have h2 := esc_len false _ n.data.data.toList (Nat.le_refl _)
  rw [len_data] at h2
  have h3 := cat3_len endB n.name gtB
  have h4 := cat3_len comO n.data comS
  have h5 := cat3_len docO n.name gtB
  have k1 : endB.size = 2 := rfl
  have k2 : gtB.size = 1 := rfl
  have k3 : comO.size = 4 := rfl
  have k4 : comS.size = 3 := rfl
  have k5 : docO.size = 10 := rfl
  have h6 := len_data n.data
  split
  · rw [List.length_append]
    split
    · simp; omega
    · rw [List.length_append]; omega
  · split
    · split <;> omega
    · split
      · omega
      · split
        · omega
        · simp
theorem kidX_len {ns : List NodeM} {T : Nat → List UInt8} {C : Nat → Nat} (hco : ∀ k, (T k).length ≤ C k) (pl : Bool) (k : Nat) : (kidX ns T pl k).length ≤ kidC ns C k := by
  unfold kidX kidC
  cases hc : ns[k]? with
  | none => simp
  | some m =>
    have h1 := nodeM_len (T k) m pl
    have h2 := hco k
    show (nodeM (T k) m pl).length ≤ costM m + C k
    omega

set_option maxHeartbeats 4000000 in
theorem inside_kids {W0 : World} {bA : Nat} {sc : Bool} {bw : Nat} {ns : List NodeM} (hN : NodeC W0 bA ns) (n : NodeM) (fst : Int) (ks : List Nat) (T : Nat → List UInt8) (C : Nat → Nat)
    (hv : (htmlM n.kind n.space && hasN voids n.name) = false)
    (hF : ∀ (W : World) (t : List UInt8) (a : Option Addr) (cap : Nat), Below W0.heap.size W0 W → Wr bA sc W0.heap.size bw t W → Calls Tryz.prog 71 #[.pointer (some ⟨bw, 0, none⟩), .agg #[.int .i64 n.kind, .int .i64 n.space, .string n.name, .slice a n.attrs.length cap, .string n.data, .string n.system, .int .i64 n.parent, .int .i64 n.first, .int .i64 n.last, .int .i64 n.prev, .int .i64 n.next, .int .i64 n.inner]] W fun e w' => e = .returned (.int .i64 fst) ∧ Below W.heap.size W w')
    (hp : PathOf (nextF ns) fst ks)
    (hK : ∀ k ∈ ks, ∃ m, ns[k]? = some m ∧ InsC W0 bA sc bw m (T k) (C k) ∧ m.attrs.length ≤ 100000) (hco : ∀ k, (T k).length ≤ C k) :
    InsC W0 bA sc bw n (ks.flatMap (kidX ns T (htmlM n.kind n.space && plainM n.name sc))) ((ks.map (kidC ns C)).sum) := by
  intro w t a cap hb hw hlen
  have hB := hb.size
  have hltw := hw.lt
  have hn0 : Nx W0.heap.size bw w (w.alloc (nodeB n a cap)) := (Nx.refl _ bw w).alloc hB _
  have HV := hidE (fun W => isVoid_any n a cap W)
  rw [hv] at HV
  have HN0 := hidE hn0
  have HW0 := hidE (hw.alloc (nodeB n a cap))
  have HK0 : Hid ((w.alloc (nodeB n a cap)).heap[w.heap.size]? = some (nodeB n a cap)) := hidE (heap_alloc_new w _)
  have HLEN := hidE hlen
  have HH := hidE (fun W => isHTML_any n a cap W)
  have HP := hidE (fun W => plain_any n.name sc W)
  unfold nodeB at HN0 HW0 HK0
  clear hw hlen hn0 hv
  go_enter Tryz.func47, Tryz.ntmps47
  go_wp2_with (go_at_call 68; refine ((unhidE HV) _).mono ?_; rintro e w4 ⟨rfl, hb4⟩; have HB4 := hidE hb4; clear hb4)
  have hk4 := ((unhidE HB4).block _ (by simp)).trans (unhidE HK0)
  have hw4 := (unhidE HW0).more (unhidE HB4)
  have hn4 := (unhidE HN0).trans (Nx.new (B := W0.heap.size) (bw := bw) (unhidE HB4) (Nat.le_trans hB (unhidE HN0).size))
  have HS : Hid (∀ W' : World, Below w4.heap.size w4 W' → (W'.cell? ⟨w.heap.size, 0, none⟩ = some (.int .i64 n.kind) ∧ W'.cell? ⟨w.heap.size, 1, none⟩ = some (.int .i64 n.space) ∧ W'.cell? ⟨w.heap.size, 2, none⟩ = some (.string n.name) ∧ W'.cell? ⟨w.heap.size, 3, none⟩ = some (.slice a n.attrs.length cap) ∧ W'.cell? ⟨w.heap.size, 4, none⟩ = some (.string n.data) ∧ W'.cell? ⟨w.heap.size, 5, none⟩ = some (.string n.system) ∧ W'.cell? ⟨w.heap.size, 6, none⟩ = some (.int .i64 n.parent) ∧ W'.cell? ⟨w.heap.size, 7, none⟩ = some (.int .i64 n.first) ∧ W'.cell? ⟨w.heap.size, 8, none⟩ = some (.int .i64 n.last) ∧ W'.cell? ⟨w.heap.size, 9, none⟩ = some (.int .i64 n.prev) ∧ W'.cell? ⟨w.heap.size, 10, none⟩ = some (.int .i64 n.next) ∧ W'.cell? ⟨w.heap.size, 11, none⟩ = some (.int .i64 n.inner) ∧ W'.cell? ⟨bw, 1, none⟩ = some (.bool sc))) := hidE (fun W' hb' => by
    have hk := (hb'.block _ (lt_of_block hk4)).trans hk4
    exact ⟨cell_row _ _ 0 _ _ _ hk, cell_row _ _ 1 _ _ _ hk, cell_row _ _ 2 _ _ _ hk, cell_row _ _ 3 _ _ _ hk, cell_row _ _ 4 _ _ _ hk, cell_row _ _ 5 _ _ _ hk, cell_row _ _ 6 _ _ _ hk, cell_row _ _ 7 _ _ _ hk, cell_row _ _ 8 _ _ _ hk, cell_row _ _ 9 _ _ _ hk, cell_row _ _ 10 _ _ _ hk, cell_row _ _ 11 _ _ _ hk, (hw4.more hb').cells.2⟩)
  have HB0 : Hid (Below w4.heap.size w4 w4) := hidE (Below.refl _ _)
  rename_i Q1 K1 hK1
  have HL : ∀ (pv : Bool) (u10 u11 u12 u13 u14 u15 u16 u17 u18 u19 u20 : Value) (W : World), Below w4.heap.size w4 W → pv = (htmlM n.kind n.space && plainM n.name sc) → K1 { tmps := #[.pointer (some ⟨bw, 0, none⟩), .agg #[.int .i64 n.kind, .int .i64 n.space, .string n.name, .slice a n.attrs.length cap, .string n.data, .string n.system, .int .i64 n.parent, .int .i64 n.first, .int .i64 n.last, .int .i64 n.prev, .int .i64 n.next, .int .i64 n.inner], undef, .pointer (some ⟨w.heap.size, 0, none⟩), .bool pv, undef, undef, undef, .agg #[.int .i64 n.kind, .int .i64 n.space, .string n.name, .slice a n.attrs.length cap, .string n.data, .string n.system, .int .i64 n.parent, .int .i64 n.first, .int .i64 n.last, .int .i64 n.prev, .int .i64 n.next, .int .i64 n.inner], .bool false, u10, u11, u12, u13, u14, u15, u16, u17, u18, u19, u20, undef, undef, undef, undef, undef, undef, undef, undef, undef, undef, undef, undef, undef, undef, undef, undef, undef, undef, undef, undef], defers := [] } W := by
    intro pv u10 u11 u12 u13 u14 u15 u16 u17 u18 u19 u20 W hbW hpv
    obtain ⟨d0, d1, d2, d3, d4, d5, d6, d7, d8, d9, d10, d11, d12⟩ := (unhidE HS) _ hbW
    have hwW := hw4.more hbW
    have hnW := hn4.trans (Nx.new (B := W0.heap.size) (bw := bw) hbW (Nat.le_trans hB hn4.size))
    have HF := hidE (hF W t a cap (hb.trans hnW.below) hwW)
    have HWW := hidE hwW
    have HNW := hidE hnW
    have hBW := Nat.le_trans hB hnW.size
    have HPV := hidE hpv
    clear hwW hnW hpv
    apply hK1
    clear hK1
    go_wp2_with (go_at_call 71; refine (unhidE HF).mono ?_; rintro e w7 ⟨rfl, hb7⟩; have HB7 := hidE hb7; clear hb7)
    have hw7 := (unhidE HWW).more (unhidE HB7)
    have hn7 := (unhidE HNW).trans (Nx.new (B := W0.heap.size) (bw := bw) (unhidE HB7) hBW)
    have HW7 := hidE hw7
    have HN7 := hidE hn7
    have hB7 := Nat.le_trans hB hn7.size
    clear hw7 hn7 d0 d1 d2 d3 d4 d5 d6 d7 d8 d9 d10 d11 d12
    go_loopg [5, 6, 7] ks.length (fun g s5 _ _ wx => ∃ (pre rest : List Nat) (k : Int), s5 = .int .i64 k ∧ ks = pre ++ rest ∧ rest.length = g ∧ PathOf (nextF ns) k rest ∧ Wr bA sc W0.heap.size bw (t ++ pre.flatMap (kidX ns T pv)) wx ∧ Nx W0.heap.size bw w7 wx)
    case atStart => exact ⟨[], ks, fst, rfl, rfl, rfl, hp, by simpa using unhidE HW7, Nx.refl _ _ _⟩
    case round =>
      obtain ⟨pre, rest, k, rfl, hks, hrl, hpk, hwx, hnx⟩ := hrel
      have c0 := hwx.cells.1
      have hwl := hwx.lt
      match rest, hpk with
      | [], hpk =>
        obtain rfl : k = -1 := hpk
        rw [List.append_nil] at hks
        subst hks
        have HW8 := hidE hwx
        have HN8 := hidE hnx
        clear hwx hnx c0
        go_wp2
        go_end0
        exact ⟨rfl, by rw [← unhidE HPV]; exact unhidE HW8, (unhidE HN7).trans (unhidE HN8)⟩
      | c :: r, ⟨hkc, nx, hnxf, hpr⟩ =>
        subst hkc
        obtain ⟨m, hm, hI, hal⟩ := hK c (by rw [hks]; simp)
        have hnxm : nx = m.next := by unfold nextF at hnxf; rw [hm] at hnxf; simpa using hnxf.symm
        have hcz : ((c : Int) != -1) = true := by rw [bne_iff_ne]; omega
        have hbx : Below W0.heap.size W0 wr := (hb.trans (unhidE HN7).below).trans hnx.below
        have HNC := hidE (hN wr hbx c m hm)
        have hsum : (ks.map (kidC ns C)).sum = (pre.map (kidC ns C)).sum + (costM m + C c) + (r.map (kidC ns C)).sum := by
          have e : kidC ns C c = costM m + C c := by unfold kidC; rw [hm]
          rw [hks]; simp [e]; omega
        have hpl := flat_sum (kidX_len (ns := ns) hco pv) pre
        have HND : Hid (∀ ao cp w8, AtR w8 ao m.attrs → Below wr.heap.size wr w8 → Calls Tryz.prog 72 #[.pointer (some ⟨bw, 0, none⟩), .agg #[.int .i64 m.kind, .int .i64 m.space, .string m.name, .slice ao m.attrs.length cp, .string m.data, .string m.system, .int .i64 m.parent, .int .i64 m.first, .int .i64 m.last, .int .i64 m.prev, .int .i64 m.next, .int .i64 m.inner], .bool pv] (w8.alloc (.cells #[.int .i64 m.kind, .int .i64 m.space, .string m.name, .slice ao m.attrs.length cp, .string m.data, .string m.system, .int .i64 m.parent, .int .i64 m.first, .int .i64 m.last, .int .i64 m.prev, .int .i64 m.next, .int .i64 m.inner] 51)) fun e w' => e = .returned (.tuple #[]) ∧ Wr bA sc W0.heap.size bw (t ++ (pre ++ [c]).flatMap (kidX ns T pv)) w' ∧ Nx W0.heap.size bw w7 w' ∧ w'.cell? ⟨w8.heap.size, 10, none⟩ = some (.int .i64 nx)) := hidE (fun ao cp w8 ha8 hb8 => by
          have hn8 := hnx.trans (Nx.new (B := W0.heap.size) (bw := bw) hb8 (Nat.le_trans hB7 hnx.size))
          have hw8 := hwx.more hb8
          have hw8l := hw8.lt
          have hn9 := hn8.alloc hB7 (.cells #[.int .i64 m.kind, .int .i64 m.space, .string m.name, .slice ao m.attrs.length cp, .string m.data, .string m.system, .int .i64 m.parent, .int .i64 m.first, .int .i64 m.last, .int .i64 m.prev, .int .i64 m.next, .int .i64 m.inner] 51)
          refine (node_any m ao cp pv (T c) (C c) hI (hco c) ((hb.trans (unhidE HN7).below).trans hn9.below) (hw8.alloc _) (ha8.nx hw8 ((Nx.refl _ _ _).alloc (Nat.le_trans hB7 hn8.size) _)) hal (by rw [List.length_append]; have := unhidE HLEN; omega)).mono ?_
          rintro e w' ⟨rfl, h1, h2⟩
          refine ⟨rfl, ?_, hn9.trans h2, ?_⟩
          · have e : kidX ns T pv c = nodeM (T c) m pv := by unfold kidX; rw [hm]
            rw [List.flatMap_append, ← List.append_assoc]
            simp only [List.flatMap_cons, List.flatMap_nil, List.append_nil, e]
            exact h1
          · rw [hnxm]
            exact cell_row _ _ 10 _ _ _ (h2.block (heap_alloc_new w8 _) (by omega) (by decide)))
        have HKS := hidE hks
        have HPR := hidE hpr
        have hrl' : r.length + 1 = gk := hrl
        clear hwx hnx hI hm hnxf hnxm hpr hks hpl hsum hbx hrl
        go_wp2_with (first
          | (go_at_call 20; refine (unhidE HNC).mono ?_; rintro e w8 ⟨ao, cp, rfl, ha8, hb8⟩; have HA8 := hidE ha8; have HB8 := hidE hb8; clear ha8 hb8)
          | (go_at_call 72; refine ((unhidE HND) ao cp w8 (unhidE HA8) (unhidE HB8)).mono ?_; rintro e w9 ⟨rfl, hw9, hn9, c9⟩; have HW9 := hidE hw9; have HN9 := hidE hn9; clear hw9 hn9))
        go_roundg (gk - 1)
        case measure => omega
        case rel => exact ⟨pre ++ [c], r, nx, rfl, by rw [unhidE HKS]; simp, by omega, unhidE HPR, unhidE HW9, unhidE HN9⟩
  cases hh : htmlM n.kind n.space with
  | true =>
    rw [hh] at HH
    have HPP : Hid (∀ W, Calls Tryz.prog 70 #[.string n.name, .bool sc] W fun e w' => e = .returned (.bool (plainM n.name sc)) ∧ Below W.heap.size W w') := HP
    clear HP
    go_region_held3 (fun W' => W'.cell? ⟨w.heap.size, 0, none⟩ = some (.int .i64 n.kind) ∧ W'.cell? ⟨w.heap.size, 1, none⟩ = some (.int .i64 n.space) ∧ W'.cell? ⟨w.heap.size, 2, none⟩ = some (.string n.name) ∧ W'.cell? ⟨w.heap.size, 3, none⟩ = some (.slice a n.attrs.length cap) ∧ W'.cell? ⟨w.heap.size, 4, none⟩ = some (.string n.data) ∧ W'.cell? ⟨w.heap.size, 5, none⟩ = some (.string n.system) ∧ W'.cell? ⟨w.heap.size, 6, none⟩ = some (.int .i64 n.parent) ∧ W'.cell? ⟨w.heap.size, 7, none⟩ = some (.int .i64 n.first) ∧ W'.cell? ⟨w.heap.size, 8, none⟩ = some (.int .i64 n.last) ∧ W'.cell? ⟨w.heap.size, 9, none⟩ = some (.int .i64 n.prev) ∧ W'.cell? ⟨w.heap.size, 10, none⟩ = some (.int .i64 n.next) ∧ W'.cell? ⟨w.heap.size, 11, none⟩ = some (.int .i64 n.inner) ∧ W'.cell? ⟨bw, 1, none⟩ = some (.bool sc)) (first | exact (unhidE HS) _ (unhidE HB6) | exact (unhidE HS) _ (unhidE HB5) | exact (unhidE HS) _ (below_dr2 (unhidE HB0)) | exact (unhidE HS) _ (unhidE HB0)) (first
      | (go_at_call 69; refine ((unhidE HH) _).mono ?_; rintro e w5 ⟨rfl, hb5⟩; have HB5 : Hid (Below w4.heap.size w4 w5) := hidE (below_dr hb5); clear hb5)
      | (go_at_call 70; refine ((unhidE HPP) _).mono ?_; rintro e w6 ⟨rfl, hb6⟩; have HB6 : Hid (Below w4.heap.size w4 w6) := hidE ((unhidE HB5).trans (hb6.mono (unhidE HB5).size)); clear hb6))
    all_goals exact HL _ _ _ _ _ _ _ _ _ _ _ _ _ (unhidE HB6) (by rw [hh]; rfl)
  | false =>
    rw [hh] at HH
    obtain ⟨d0, d1, d2, d3, d4, d5, d6, d7, d8, d9, d10, d11, d12⟩ := (unhidE HS) _ (unhidE HB0)
    first
    | go_region_with (go_at_call 69; refine ((unhidE HH) _).mono ?_; rintro e w6 ⟨rfl, hb6⟩; have HB6 : Hid (Below w4.heap.size w4 w6) := hidE (below_dr hb6); clear hb6)
    | fail
    all_goals exact HL _ _ _ _ _ _ _ _ _ _ _ _ _ (unhidE HB6) (by rw [hh]; rfl)
end Go.Proofs.YtmnmaenmoaehlaaGreatDoor

namespace Go.Proofs.YtmnmaenmoaehlaaGreatDoor
open Go.RowKit Go.Lib

theorem nodup_few : ∀ (N : Nat) (l : List Nat), l.Nodup → (∀ x ∈ l, x < N) → l.length ≤ N := by
  intro N
  induction N with
  | zero => intro l _ h; cases l with
    | nil => simp
    | cons x l => have := h x (by simp); omega
  | succ N ih =>
    intro l hn h
    by_cases hm : N ∈ l
    · have h1 := ih (l.erase N) (hn.erase N) (fun x hx => by
        have h2 := h x (List.mem_of_mem_erase hx)
        have h3 : x ≠ N := fun e => by rw [e] at hx; exact (hn.not_mem_erase) hx
        omega)
      rw [List.length_erase_of_mem hm] at h1
      omega
    · have h1 := ih l hn (fun x hx => by
        have h2 := h x hx
        have h3 : x ≠ N := fun e => hm (e ▸ hx)
        omega)
      omega

theorem nodeM_T {n : NodeM} {o : OneM} (h : Same n o) (inn : List UInt8) (pl : Bool) : nodeM inn n pl = nodeT inn o pl := by
  unfold nodeM nodeT elemM elemT voidO
  rw [h.kind, h.space, h.name, h.attrs, h.data]
theorem costM_O {n : NodeM} {o : OneM} (h : Same n o) : costM n = costO o := by
  unfold costM costO
  rw [h.name, h.attrs, h.data]
theorem kidX_T {ns : List NodeM} {os : List OneM} (hs : Sim ns os) (sc : Bool) (f : Nat) (pl : Bool) (k : Nat) : kidX ns (inL os sc f) pl k = kidT os sc f pl k := by
  unfold kidX kidT
  cases hc : os[k]? with
  | none =>
    have : ns[k]? = none := by rw [List.getElem?_eq_none_iff] at hc ⊢; rw [hs.len]; exact hc
    rw [this]
  | some c =>
    obtain ⟨m, hm, sm⟩ := hs.get hc
    rw [hm]
    exact nodeM_T sm _ _
theorem kidC_N {ns : List NodeM} {os : List OneM} (hs : Sim ns os) (f : Nat) (k : Nat) : kidC ns (costN os f) k = kidN os f k := by
  unfold kidC kidN
  cases hc : os[k]? with
  | none =>
    have : ns[k]? = none := by rw [List.getElem?_eq_none_iff] at hc ⊢; rw [hs.len]; exact hc
    rw [this]
  | some c =>
    obtain ⟨m, hm, sm⟩ := hs.get hc
    rw [hm]
    show costM m + _ = costO c + _
    rw [costM_O sm]

/-- The way up from what is in a node goes by that node. -/
theorem kid_path {ns : List NodeM} {os : List OneM} (hs : Sim ns os) {i : Nat} {o : OneM} (ho : os[i]? = some o) {path : List Nat} (hp : PathOf (upO os) i path) {k : Nat} (hk : k ∈ kidsOf os o) : ∃ c path', os[k]? = some c ∧ PathOf (upO os) k path' ∧ path.length < path'.length := by
  have one : ∀ (s : Nat) (so : OneM) (sp : List Nat), os[s]? = some so → PathOf (upO os) s sp → k ∈ so.kids → ∃ c path', os[k]? = some c ∧ PathOf (upO os) k path' ∧ sp.length < path'.length := by
    intro s so sp hso hsp hks
    obtain ⟨c, hc, hup⟩ := hs.down s so k hso hks
    refine ⟨c, k :: sp, hc, ⟨rfl, s, ?_, hsp⟩, by simp⟩
    unfold upO
    rw [hc]
    show some (if c.up = -1 then c.host else c.up) = some (s : Int)
    rw [if_neg (by rw [hup]; omega), hup]
  unfold kidsOf at hk
  rcases hs.inner i o ho with h1 | ⟨h1, m, hm, hh⟩
  · rw [if_pos h1] at hk
    exact one i o path ho hp hk
  · rw [if_neg (by rw [h1]; omega), h1, show ((i : Int) + 1).toNat = i + 1 by omega, hm] at hk
    have hmu : m.up = -1 := by
      rcases hs.host (i + 1) m hm with h2 | ⟨h2, _⟩
      · rw [hh] at h2; omega
      · exact hs.alone (i + 1) m hm (.inr h2)
    have hp2 : PathOf (upO os) ((i + 1 : Nat) : Int) ((i + 1) :: path) := by
      refine ⟨rfl, (i : Int), ?_, hp⟩
      unfold upO
      rw [hm]
      show some (if m.up = -1 then m.host else m.up) = some (i : Int)
      rw [if_pos hmu, hh]
    obtain ⟨c, path', e1, e2, e3⟩ := one (i + 1) m _ hm hp2 hk
    exact ⟨c, path', e1, e2, by simp at e3; omega⟩

theorem inside_all {W0 : World} {bA : Nat} {sc : Bool} {bw : Nat} {ns : List NodeM} {os : List OneM} (hN : NodeC W0 bA ns) (hs : Sim ns os) (hA : ∀ (i : Nat) m, ns[i]? = some m → m.attrs.length ≤ 100000) :
    ∀ (f i : Nat) (path : List Nat) (o : OneM) (nd : NodeM), PathOf (upO os) i path → os.length + 1 ≤ path.length + f → os[i]? = some o → ns[i]? = some nd → InsC W0 bA sc bw nd (inL os sc f i) (costN os f i) := by
  intro f
  induction f with
  | zero =>
    intro i path o nd hp hf _ _
    have := nodup_few os.length path (path_nodup hp) (path_in hp)
    omega
  | succ f ih =>
    intro i path o nd hp hf ho hnd
    have sm := hs.same i nd o hnd ho
    rw [inL_at ho, costN_at ho]
    have hv' : (htmlM nd.kind nd.space && hasN voids nd.name) = voidO o := by unfold voidO; rw [sm.kind, sm.space, sm.name]
    have hpl : (htmlM nd.kind nd.space && plainM nd.name sc) = plainO o sc := by unfold plainO; rw [sm.kind, sm.space, sm.name]
    cases hv : voidO o with
    | true =>
      rw [hv] at hv'
      simpa using inside_void nd _ hv'
    | false =>
      rw [hv] at hv'
      have hK : ∀ k ∈ kidsOf os o, ∃ m, ns[k]? = some m ∧ InsC W0 bA sc bw m (inL os sc f k) (costN os f k) ∧ m.attrs.length ≤ 100000 := by
        intro k hk
        obtain ⟨c, path', hc, hp', hlt⟩ := kid_path hs ho hp hk
        obtain ⟨m, hm, _⟩ := hs.get hc
        exact ⟨m, hm, ih k path' c m hp' (by omega) hc hm, hA k m hm⟩
      have fin : InsC W0 bA sc bw nd ((kidsOf os o).flatMap (kidX ns (inL os sc f) (htmlM nd.kind nd.space && plainM nd.name sc))) (((kidsOf os o).map (kidC ns (costN os f))).sum) := by
        rcases hs.inner i o ho with h1 | ⟨h1, m, hm, _⟩
        · have e : kidsOf os o = o.kids := by unfold kidsOf; rw [if_pos h1]
          rw [e] at hK ⊢
          exact inside_kids hN nd nd.first o.kids _ _ hv' (fun W t a cap _ _ => first_plain nd a cap bw W (by rw [sm.inner]; exact h1)) ((hs.kids i o ho).path hnd) hK (inL_len os sc f)
        · have e : kidsOf os o = m.kids := by
            unfold kidsOf
            rw [if_neg (by rw [h1]; omega), h1, show ((i : Int) + 1).toNat = i + 1 by omega, hm]
          rw [e] at hK ⊢
          obtain ⟨mm, hmm, _⟩ := hs.get hm
          exact inside_kids hN nd mm.first m.kids _ _ hv' (fun W t a cap hb hw => first_inner hN hb hw nd a cap (i + 1) mm (by rw [sm.inner, h1]; rfl) hmm) ((hs.kids (i + 1) m hm).path hmm) hK (inL_len os sc f)
      rw [hpl] at fin
      have e1 : (kidsOf os o).flatMap (kidX ns (inL os sc f) (plainO o sc)) = (kidsOf os o).flatMap (kidT os sc f (plainO o sc)) := by
        congr 1; funext k; exact kidX_T hs sc f _ k
      have e2 : (kidsOf os o).map (kidC ns (costN os f)) = (kidsOf os o).map (kidN os f) := by
        congr 1; funext k; exact kidC_N hs f k
      rw [e1, e2] at fin
      simpa using fin
end Go.Proofs.YtmnmaenmoaehlaaGreatDoor
