/-
  The walk of LabelBack: an encoding's name, its letters of any size, blanks around it.
-/
import Derived.Test.YtdacaedjcfmpdaaDoorLf
namespace Go.Proofs.YtdacaedjcfmpdaaDoor
open Go.RowKit Go.Lib

structure BytesIn (w : World) (a : Option Addr) (l : List UInt8) : Prop where
  cells : ∀ (i : Nat) x, l[i]? = some x → ∃ b off, a = some ⟨b, off, none⟩ ∧ w.cell? ⟨b, off + i, none⟩ = some (.int .u8 (x.toNat : Int))
theorem BytesIn.below {w w' : World} {a : Option Addr} {l : List UInt8} (h : BytesIn w a l) (hb : Below w.heap.size w w') : BytesIn w' a l := ⟨fun i x hi => by
  obtain ⟨b, off, e, hc⟩ := h.cells i x hi
  exact ⟨b, off, e, (hb.cell (p := ⟨b, off + i, none⟩) (World.block_lt_of_cell? w _ hc)).trans hc⟩⟩

structure BAt (w wx : World) (l : List UInt8) : Prop where
  cells : ∀ (k : Nat) c, l[k]? = some c → wx.cell? ⟨w.heap.size, k, none⟩ = some (.int .u8 (c.toNat : Int))
  free : ∀ k, k < l.length → wx.frozen? ⟨w.heap.size, k, none⟩ = false
  below : Below w.heap.size w wx
  lies : w.heap.size < wx.heap.size
theorem BAt.put {w wx : World} {l : List UInt8} {j : Nat} (h : BAt w wx l) {c : UInt8} (hc : l[j]? = some c) {v : UInt8} {x : Int} (hx : x = (v.toNat : Int)) : BAt w (wx.setCell ⟨w.heap.size, j, none⟩ (.int .u8 x)) (l.set j v) := by
  subst hx
  have hj : j < l.length := (List.getElem?_eq_some_iff.1 hc).1
  refine ⟨fun k d hd => ?_, fun k hk => ?_, h.below.setCell (Nat.le_refl _) _, by simpa using h.lies⟩
  · by_cases e : k = j
    · subst e
      rw [List.getElem?_set_self hj] at hd; cases hd
      rw [World.cell?_setCell_same' _ _ _ (by rw [h.cells k c hc]; rfl)]
    · rw [List.getElem?_set_ne (fun e2 => e e2.symm)] at hd
      rw [show (wx.setCell ⟨w.heap.size, j, none⟩ (.int .u8 (v.toNat : Int))).cell? ⟨w.heap.size, k, none⟩ = wx.cell? ⟨w.heap.size, k, none⟩ by apply World.cell?_setCell_other; intro e2; cases e2; exact e rfl]
      exact h.cells k d hd
  · rw [World.frozen?_setCell]; exact h.free k (by simpa using hk)
theorem set_low (l : List UInt8) (j : Nat) (c v : UInt8) (hc : l[j]? = some c) (h : low v = low c) : (l.set j v).map low = l.map low := by
  rw [List.map_set, h]
  apply List.ext_getElem?
  intro k
  by_cases e : k = j
  · subst e
    rw [List.getElem?_set_self (by rw [List.length_map]; exact (List.getElem?_eq_some_iff.1 hc).1), List.getElem?_map, hc]; rfl
  · rw [List.getElem?_set_ne (fun e2 => e e2.symm)]
theorem bat_start (w : World) (s : ByteArray) (cap : Nat) (hcap : s.size ≤ cap) : BAt w (w.drew.alloc (.cells (bytesRow s cap) 5 ((bytesRow s cap).size, (bytesRow s cap).size + 1))) s.data.toList := by
  have h := low_start w s cap hcap
  exact ⟨fun k c hc => by simpa using h.cells k c hc, h.free, h.below, h.lies⟩
theorem bat_back (w W : World) (l : List UInt8) (cap : Nat) (h : BAt w W l) :
    (convert 35 9 (.slice (some ⟨w.heap.size, 0, none⟩) l.length cap)).run Tryd.prog W = .ok (.string ⟨l.toArray⟩) W :=
  run_convert_bytes_back (P := Tryd.prog) W 35 9 5 ⟨w.heap.size, 0, none⟩ cap l Tryd.underlying35 Tryd.underlying5 Tryd.underlying9 (fun j hj => by
    have := h.cells j _ (List.getElem?_eq_getElem hj)
    have ad : (⟨w.heap.size, 0, none⟩ : Addr).add j = ⟨w.heap.size, j, none⟩ := by unfold Addr.add; split <;> simp_all
    rw [ad, this])

structure Strs5 (w : World) (b : Nat) : Prop where
  at_ : ∀ r, r < 5 → ∃ c : UInt8, cs.contains c = true ∧ w.cell? ⟨b, r, none⟩ = some (.string ⟨#[c]⟩)
theorem strs5_new (w : World) : Strs5 (w.alloc (.cells #[.string ⟨#[32]⟩, .string ⟨#[9]⟩, .string ⟨#[10]⟩, .string ⟨#[12]⟩, .string ⟨#[13]⟩] 9)) w.heap.size := ⟨fun r hr => by
  rw [World.cell?_alloc_at _ _ _ _ rfl]
  rcases (by omega : r = 0 ∨ r = 1 ∨ r = 2 ∨ r = 3 ∨ r = 4) with rfl | rfl | rfl | rfl | rfl
  · exact ⟨32, by decide, rfl⟩
  · exact ⟨9, by decide, rfl⟩
  · exact ⟨10, by decide, rfl⟩
  · exact ⟨12, by decide, rfl⟩
  · exact ⟨13, by decide, rfl⟩⟩

theorem low_blank (c : UInt8) (h : cs.contains (low c) = false) : cs.contains c = false := by
  by_cases hc : 65 ≤ c.toNat ∧ c.toNat ≤ 90
  · cases hq : cs.contains c with
    | false => rfl
    | true =>
      have : c ∈ cs := by simpa using hq
      simp only [cs, List.mem_cons, List.not_mem_nil, or_false] at this
      rcases this with rfl | rfl | rfl | rfl | rfl <;> exact absurd hc (by decide)
  · rw [low_other c hc] at h; exact h
theorem trim_none (l : List UInt8) (h : ∀ c ∈ l, cs.contains c = false) : Lib.trimS l cs = l := by
  have tl : ∀ l : List UInt8, (∀ c ∈ l, cs.contains c = false) → Lib.trimLeftS l cs = l := fun l h => by
    cases l with
    | nil => rfl
    | cons c l => unfold Lib.trimLeftS; rw [List.dropWhile_cons, if_neg (by rw [h c (by simp)]; decide)]
  have tr : Lib.trimRightS l cs = l := by
    have := tl l.reverse (fun c hc => h c (by simpa using hc))
    unfold Lib.trimLeftS at this
    unfold Lib.trimRightS
    rw [this, List.reverse_reverse]
  unfold Lib.trimS
  rw [tr, tl l h]
theorem names_facts : (List.range 7).all (fun k => match encN[k]? with
  | some n => decide (n.length ≤ 14) && (n.map low).all (fun c => !cs.contains c) && decide (ofP (n.map low) = some k)
  | none => true) = true := by decide +kernel
theorem name_facts (k : Nat) (n : List UInt8) (h : encN[k]? = some n) : n.length ≤ 14 ∧ (∀ c ∈ n.map low, cs.contains c = false) ∧ ofP (n.map low) = some k := by
  have hk : k < 7 := by have := (List.getElem?_eq_some_iff.1 h).1; rw [encN_len] at this; exact this
  have := List.all_eq_true.1 names_facts k (List.mem_range.2 hk)
  rw [h] at this
  simp only [Bool.and_eq_true, decide_eq_true_eq, List.all_eq_true, Bool.not_eq_true'] at this
  exact ⟨this.1.1, this.1.2, this.2⟩
theorem norm_name (l n : List UInt8) (h : l.map low = n.map low) (hn : ∀ c ∈ n.map low, cs.contains c = false) : norm l = n.map low := by
  have : Lib.trimS l cs = l := trim_none l (fun c hc => low_blank c (hn _ (by rw [← h]; exact List.mem_map_of_mem hc)))
  show (Lib.trimS l cs).map low = n.map low
  rw [this, h]

theorem low_low (c : UInt8) : low (low c) = low c := by
  by_cases hc : 65 ≤ c.toNat ∧ c.toNat ≤ 90
  · have := low_cap c hc.1 hc.2
    exact low_other _ (by omega)
  · rw [low_other c hc, low_other c hc]
def up (c : UInt8) : UInt8 := if 97 ≤ c.toNat ∧ c.toNat ≤ 122 then c - 32 else c
theorem up_nat (c : UInt8) (h1 : 97 ≤ c.toNat) (h2 : c.toNat ≤ 122) : ((up c).toNat : Int) = (c.toNat : Int) - 32 := by
  have e : up c = c - 32 := by unfold up; rw [if_pos ⟨h1, h2⟩]
  rw [e, UInt8.toNat_sub_of_le _ _ (by rw [UInt8.le_iff_toNat_le]; show 32 ≤ c.toNat; omega)]
  have : (32 : UInt8).toNat = 32 := rfl
  omega
theorem low_up (c : UInt8) (h1 : 97 ≤ c.toNat) (h2 : c.toNat ≤ 122) : low (up c) = low c := by
  have e := up_nat c h1 h2
  apply UInt8.toNat_inj.1
  have := low_cap (up c) (by omega) (by omega)
  rw [low_other c (by omega)]
  omega

theorem bat_one {w wx : World} {l n : List UInt8} {i : Nat} {c v : UInt8} {x : Int} (h : BAt w wx l) (hc : l[i]? = some c) (hll : l.map low = n.map low) (hx : x = (v.toNat : Int)) (hv : low v = low c) :
    ∃ l', BAt w (wx.setCell ⟨w.heap.size, i, none⟩ (.int .u8 x)) l' ∧ l'.map low = n.map low ∧ l'[i]? = some v :=
  ⟨l.set i v, h.put hc hx, by rw [set_low l i c v hc hv]; exact hll, List.getElem?_set_self (List.getElem?_eq_some_iff.1 hc).1⟩
theorem bat_two {w wx : World} {l n : List UInt8} {i : Nat} {c v u : UInt8} {x y : Int} (h : BAt w wx l) (hc : l[i]? = some c) (hll : l.map low = n.map low) (hx : x = (v.toNat : Int)) (hv : low v = low c) (hy : y = (u.toNat : Int)) (hu : low u = low c) :
    ∃ l', BAt w ((wx.setCell ⟨w.heap.size, i, none⟩ (.int .u8 x)).setCell ⟨w.heap.size, i, none⟩ (.int .u8 y)) l' ∧ l'.map low = n.map low := by
  obtain ⟨l', h1, h2, h3⟩ := bat_one h hc hll hx hv
  obtain ⟨l2, h4, h5, _⟩ := bat_one h1 h3 h2 hy (hu.trans hv.symm)
  exact ⟨l2, h4, h5⟩
end Go.Proofs.YtdacaedjcfmpdaaDoor
