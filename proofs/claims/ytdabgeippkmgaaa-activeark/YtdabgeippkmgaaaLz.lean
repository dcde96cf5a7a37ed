/-
  Texts and bytes that came in, as the walks read them; both arenas made of the same names.
-/
import Derived.Test.YtdabgeippkmgaaaLw
import Derived.Test.YtdabgeippkmgaaaRows
import Derived.ProofKit
import Derived.OpenShut
import Derived.ShutString
import Derived.ChangeOld
import Derived.Deep.Slices
import Derived.SizedLaws
namespace Go.Proofs.Ytdabgeippkmgaaa
open Go.ChangeShapes Go.WideShapes Go.ChangeAt Go.RowKit

structure TxtIn (w : World) (a : Option Addr) (l : List ByteArray) : Prop where
  cells : ∀ (i : Nat) x, l[i]? = some x → ∃ b off, a = some ⟨b, off, none⟩ ∧ w.cell? ⟨b, off + i, none⟩ = some (.string x)
structure BytIn (w : World) (a : Option Addr) (l : List Int) : Prop where
  cells : ∀ (i : Nat) x, l[i]? = some x → ∃ b off, a = some ⟨b, off, none⟩ ∧ w.cell? ⟨b, off + i, none⟩ = some (.int .u8 x)
  fit : ∀ x ∈ l, 0 ≤ x ∧ x ≤ 255
theorem TxtIn.below {w w' : World} {a : Option Addr} {l : List ByteArray} (h : TxtIn w a l) (hb : Below w.heap.size w w') : TxtIn w' a l := by
  refine ⟨fun i x hi => ?_⟩
  obtain ⟨b, off, e, c0⟩ := h.cells i x hi
  exact ⟨b, off, e, (hb.cell (p := ⟨b, off + i, none⟩) (World.block_lt_of_cell? w _ c0)).trans c0⟩
theorem BytIn.below {w w' : World} {a : Option Addr} {l : List Int} (h : BytIn w a l) (hb : Below w.heap.size w w') : BytIn w' a l := by
  refine ⟨fun i x hi => ?_, h.fit⟩
  obtain ⟨b, off, e, c0⟩ := h.cells i x hi
  exact ⟨b, off, e, (hb.cell (p := ⟨b, off + i, none⟩) (World.block_lt_of_cell? w _ c0)).trans c0⟩

theorem laidOut : laidOutB Try.prog = true := by kernel_rfl
section
variable {H : Type} {enc : TypeId × Value → H} {W : World} {spare : Nat → Bool} {held : Bool}

theorem addr_plain1 {x : Addr} {v : Value} (h : W.cell? (x.add 0) = some v) : ∃ b off, x = ⟨b, off, none⟩ := by
  obtain ⟨b, off, spot⟩ := x
  have hspot : spot = none := by simpa [Addr.add] using World.cell?_spot h
  exact ⟨b, off, by rw [hspot]⟩
theorem cells_get1 {x : Addr} {n : Nat} {cs : List Value} (h : W.cells? 0 x n = some cs) (j : Nat) (v : Value) (hj : cs[j]? = some v) : W.cell? (x.add j) = some v := by
  obtain ⟨_, hlen, hc⟩ := World.cells?_some h
  have hlt : j < cs.length := (List.getElem?_eq_some_iff.1 hj).1
  simp only [World.cells?, Nat.zero_le, if_true] at h
  have hjn : j < n := by omega
  have := mapM_some_get h j j (by simp [hjn])
  rw [this, hj]

theorem add_at1 (b off j : Nat) : (⟨b, off, none⟩ : Addr).add j = ⟨b, off + j, none⟩ := by simp [Addr.add]
theorem texts_open {a : Option Addr} {len cap : Nat} {d : DataW H} {ps : List MemPlace} (h : DataW.Trod enc Try.prog W 0 spare held 41 (.slice a len cap) d ps) (hw : (d.weights Try.prog 41).all (· ≤ reachBytes) = true) :
    ∃ l : List ByteArray, len = l.length ∧ TxtIn W a l ∧ l.length ≤ 140737488351232 := by
  obtain ⟨fuel, hf⟩ := h
  rcases Go.Deep.open_slice Try.underlying41 hf with ⟨hcs, _⟩ | ⟨x, len', cap', m, n, D, Pl, hcs, _, hlc, hcm, hm, hd, hel⟩
  · simp [Value.cells] at hcs
    obtain ⟨rfl, rfl, rfl⟩ := hcs
    exact ⟨[], rfl, ⟨fun i x hi => by simp at hi⟩, by simp⟩
  · simp [Value.cells] at hcs
    obtain ⟨rfl, rfl, rfl⟩ := hcs
    cases hd
    have hcn : Try.prog.cellsOf 9 = 1 := by kernel_rfl
    have hbn : Try.prog.bytesOf 9 = 16 := by kernel_rfl
    have hlm : len ≤ m := by rw [hm]; split <;> omega
    have one : ∀ i, i < len → ∃ z : ByteArray, ∃ b off, x = ⟨b, off, none⟩ ∧ W.cell? ⟨b, off + i, none⟩ = some (.string z) := by
      intro i hi
      obtain ⟨cs', hcs', htr⟩ := hel i (by omega)
      rw [hcn] at hcs'
      obtain ⟨z, rfl, _, _⟩ := DataW.trod_string Try.underlying9 htr
      have c0 := cells_get1 hcs' 0 _ rfl
      rw [Go.Deep.add_add] at c0
      obtain ⟨i0, hi0⟩ : ∃ i0 : Nat, i0 = 0 := ⟨0, rfl⟩
      obtain ⟨cs0, hcs0, htr0⟩ := hel i0 (by omega)
      rw [hcn] at hcs0
      obtain ⟨z', rfl, _, _⟩ := DataW.trod_string Try.underlying9 htr0
      have p0 := cells_get1 hcs0 0 _ rfl
      rw [Go.Deep.add_add, show i0 * 1 + 0 = 0 by omega] at p0
      obtain ⟨b, off, rfl⟩ := addr_plain1 p0
      rw [show i * 1 + 0 = i by omega, add_at1] at c0
      exact ⟨z, b, off, rfl, c0⟩
    obtain ⟨f, hf'⟩ : ∃ f : Nat → ByteArray, ∀ i, i < len → ∃ b off, x = ⟨b, off, none⟩ ∧ W.cell? ⟨b, off + i, none⟩ = some (.string (f i)) := Go.Deep.choose_lt one
    refine ⟨(List.range len).map f, by simp, ⟨fun i y hi => ?_⟩, ?_⟩
    · have hlt : i < len := by have := (List.getElem?_eq_some_iff.1 hi).1; simpa using this
      have hy : f i = y := by simpa [hlt] using hi
      obtain ⟨b, off, e, c0⟩ := hf' i hlt
      subst hy
      exact ⟨b, off, by rw [e], c0⟩
    · have := List.all_eq_true.1 hw (((List.range len).map D).length * 16 + ((List.range (m - len)).map fun j => D (len + j)).length * 16) (by simp [DataW.weights, Try.underlying41, hbn, Nat.add_mul])
      simp [reachBytes] at this
      simp
      omega
theorem bytes_open {a : Option Addr} {len cap : Nat} {d : DataW H} {ps : List MemPlace} (h : DataW.Trod enc Try.prog W 0 spare held 67 (.slice a len cap) d ps) (hw : (d.weights Try.prog 67).all (· ≤ reachBytes) = true) :
    ∃ l : List Int, len = l.length ∧ BytIn W a l ∧ l.length ≤ 140737488351232 := by
  obtain ⟨fuel, hf⟩ := h
  rcases Go.Deep.open_slice Try.underlying67 hf with ⟨hcs, _⟩ | ⟨x, len', cap', m, n, D, Pl, hcs, _, hlc, hcm, hm, hd, hel⟩
  · simp [Value.cells] at hcs
    obtain ⟨rfl, rfl, rfl⟩ := hcs
    exact ⟨[], rfl, ⟨fun i x hi => by simp at hi, fun x hx => by simp at hx⟩, by simp⟩
  · simp [Value.cells] at hcs
    obtain ⟨rfl, rfl, rfl⟩ := hcs
    cases hd
    have hcn : Try.prog.cellsOf 5 = 1 := by kernel_rfl
    have hbn : Try.prog.bytesOf 5 = 1 := by kernel_rfl
    have hlm : len ≤ m := by rw [hm]; split <;> omega
    have e1 : IntKind.u8.min = 0 := rfl
    have e2 : IntKind.u8.max = 255 := by decide
    have one : ∀ i, i < len → ∃ z : Int, (0 ≤ z ∧ z ≤ 255) ∧ ∃ b off, x = ⟨b, off, none⟩ ∧ W.cell? ⟨b, off + i, none⟩ = some (.int .u8 z) := by
      intro i hi
      obtain ⟨cs', hcs', htr⟩ := hel i (by omega)
      rw [hcn] at hcs'
      obtain ⟨z, rfl, _, hz⟩ := DataW.trod_int Try.underlying5 htr
      have c0 := cells_get1 hcs' 0 _ rfl
      rw [Go.Deep.add_add] at c0
      obtain ⟨i0, hi0⟩ : ∃ i0 : Nat, i0 = 0 := ⟨0, rfl⟩
      obtain ⟨cs0, hcs0, htr0⟩ := hel i0 (by omega)
      rw [hcn] at hcs0
      obtain ⟨z', rfl, _, _⟩ := DataW.trod_int Try.underlying5 htr0
      have p0 := cells_get1 hcs0 0 _ rfl
      rw [Go.Deep.add_add, show i0 * 1 + 0 = 0 by omega] at p0
      obtain ⟨b, off, rfl⟩ := addr_plain1 p0
      rw [show i * 1 + 0 = i by omega, add_at1] at c0
      refine ⟨z, ?_, b, off, rfl, c0⟩
      simp only [Lit.wf, e1, e2, Bool.and_eq_true, decide_eq_true_eq] at hz
      exact hz
    obtain ⟨f, hf'⟩ : ∃ f : Nat → Int, ∀ i, i < len → (0 ≤ f i ∧ f i ≤ 255) ∧ ∃ b off, x = ⟨b, off, none⟩ ∧ W.cell? ⟨b, off + i, none⟩ = some (.int .u8 (f i)) := Go.Deep.choose_lt one
    refine ⟨(List.range len).map f, by simp, ⟨fun i y hi => ?_, fun y hy => ?_⟩, ?_⟩
    · have hlt : i < len := by have := (List.getElem?_eq_some_iff.1 hi).1; simpa using this
      have hy : f i = y := by simpa [hlt] using hi
      obtain ⟨_, b, off, e, c0⟩ := hf' i hlt
      subst hy
      exact ⟨b, off, by rw [e], c0⟩
    · obtain ⟨i, hi, rfl⟩ := List.mem_map.1 hy
      exact (hf' i (List.mem_range.1 hi)).1
    · have := List.all_eq_true.1 hw (((List.range len).map D).length * 1 + ((List.range (m - len)).map fun j => D (len + j)).length * 1) (by simp [DataW.weights, Try.underlying67, hbn])
      simp [reachBytes] at this
      simp
      omega
end

def ksA (ks : List Key) (l : List ByteArray) : List Key := l.foldl (fun ks c => (elemK ks 0 c).1) ks
/-- The nodes of the arenas that are made of l. -/
def ksT (l : List ByteArray) : List Key := ksA [⟨0, 0, emptyS⟩] (l.take 300)
theorem ksA_next {l : List ByteArray} {i : Nat} {c : ByteArray} (h : l[i]? = some c) : ksA [⟨0, 0, emptyS⟩] (l.take (i + 1)) = (elemK (ksA [⟨0, 0, emptyS⟩] (l.take i)) 0 c).1 := by
  obtain ⟨hlt, rfl⟩ := List.getElem?_eq_some_iff.1 h
  rw [List.take_succ_eq_append_getElem hlt, ksA, List.foldl_append]
  rfl
theorem elemK_sp {ks : List Key} (h : ∀ q ∈ ks, q.space = 0) (c : ByteArray) : ∀ q ∈ (elemK ks 0 c).1, q.space = 0 := by
  have ap : ∀ (m : List Key), (∀ q ∈ m, q.space = 0) → ∀ q ∈ ks ++ m, q.space = 0 := fun m hm q hq => (List.mem_append.1 hq).elim (h q) (hm q)
  unfold elemK addK
  split
  · exact h
  · split
    · exact h
    · split
      · split
        · exact ap _ (by simp)
        · exact h
      · split
        · exact ap _ (by simp)
        · exact h
theorem ksA_sp : ∀ (l : List ByteArray) (ks : List Key), (∀ q ∈ ks, q.space = 0) → ∀ q ∈ ksA ks l, q.space = 0
  | [], _, h => h
  | c :: l, _, h => ksA_sp l _ (elemK_sp h c)
theorem ksT_sp (l : List ByteArray) : ∀ q ∈ ksT l, q.space = 0 := ksA_sp _ _ (by simp)

set_option maxHeartbeats 4000000 in
theorem arenas_any (w : World) (a : Option Addr) (l : List ByteArray) (cap : Nat) (hin : TxtIn w a l) (hl : l.length ≤ 140737488351232) :
    Calls Try.prog 18 #[.slice a l.length cap] w fun e w' => ∃ bA bR, e = .returned (.tuple #[.pointer (some ⟨bA, 0, none⟩), .pointer (some ⟨bR, 0, none⟩)]) ∧ Env w w' [arOb _ bA (ksT l), rfOb _ bR (ksT l)] := by
  have HIN := hide hin
  have H0 := hide (Env.start w)
  have hlz : (l.length : Int) ≤ 140737488351232 := by omega
  clear hin hl
  go_enter Try.func18, Try.ntmps18
  go_wp2_with (first
    | (go_at_call 38; refine (env_new (unhide H0)).mono ?_; rintro e w1 ⟨bA, rfl, hv⟩; have H1 := hide hv; clear hv)
    | (go_at_call 44; refine (env_rnew (unhide H1)).mono ?_; rintro e w2 ⟨bR, rfl, hv⟩; have H2 := hide hv; clear hv))
  go_loopg [6] 300 (fun g s6 wr => ∃ i : Nat, s6 = .int .i64 (i : Int) ∧ i + g = 300 ∧ i ≤ l.length ∧ Env w wr [arOb _ bA (ksA [⟨0, 0, emptyS⟩] (l.take i)), rfOb _ bR (ksA [⟨0, 0, emptyS⟩] (l.take i))])
  case atStart => exact ⟨0, rfl, by omega, Nat.zero_le _, unhide H2⟩
  case round =>
    obtain ⟨i, rfl, hig, hil, hv⟩ := hrel
    have HV := hide hv
    have HG := hide hig
    clear hv
    by_cases hi : i < l.length
    · have hiz : (i : Int) < (l.length : Int) := by omega
      by_cases h3 : i < 300
      · have h3z : (i : Int) < 300 := by omega
        obtain ⟨c, hc⟩ : ∃ c, l[i]? = some c := ⟨_, List.getElem?_eq_getElem hi⟩
        obtain ⟨b, off, rfl, _⟩ := (unhide HIN).cells i c hc
        have HC : Hid (∀ wx, Below w.heap.size w wx → wx.cell? ⟨b, off + i, none⟩ = some (.string c)) := hide (fun wx hb => by
          obtain ⟨b', off', e, c0⟩ := ((unhide HIN).below hb).cells i c hc
          cases e
          exact c0)
        have HN := hide (ksA_next hc)
        generalize ksA [⟨0, 0, emptyS⟩] (l.take i) = ks at *
        generalize hlen : l.length = n at *
        have HLEN := hide hlen
        have q0 := (unhide HC) wr (unhide HV).bel
        have HI := hide hi
        have HIL := hide hil
        have HH3 := hide h3
        clear hig hil hi h3 hc hlen
        go_wp2_with (first | (go_at_call 39; refine (env_elem (wx := _) (by first | exact unhide HV | exact (unhide HV).more (Below.refl _ _).drew | exact (unhide HV).more (below_dn (Below.refl _ _) _) | exact (unhide HV).more (Below.refl _ _).drew.drew) (i := 0) (bA := bA) rfl 0 c).mono ?_; rintro e w3 ⟨rfl, hv⟩; have E3 := hide hv; have r0 := (unhide HC) w3 hv.bel; clear hv) | (go_at_call 45; refine (env_relem (wx := _) (by first | exact unhide E3 | exact (unhide E3).more (Below.refl _ _).drew | exact (unhide E3).more (below_dn (Below.refl _ _) _) | exact (unhide E3).more (Below.refl _ _).drew.drew) (i := 1) (bR := bR) rfl 0 c).mono ?_; rintro e w4 ⟨rfl, hv⟩; have E4 := hide hv; clear hv))
        all_goals go_roundg (gk - 1)
        all_goals first | (case measure => have := unhide HG; have := unhide HH3; omega) | skip
        all_goals exact ⟨i + 1, by go_num, by have := unhide HG; have := unhide HH3; omega, by have := unhide HI; have := unhide HLEN; omega, by rw [unhide HN]; exact unhide E4⟩
      · obtain rfl : i = 300 := by omega
        have HF : Hid (ksT l = ksA [⟨0, 0, emptyS⟩] (l.take 300)) := hide rfl
        generalize l.length = n at *
        generalize ksA [⟨0, 0, emptyS⟩] (l.take 300) = ks at *
        clear hig hil h3 hi
        go_wp2
        go_ret2
        have e4 := unhide HV
        exact ⟨bA, bR, rfl, by rw [unhide HF]; exact e4⟩
    · have hiz : ¬ (i : Int) < (l.length : Int) := by omega
      have HF : Hid (ksT l = ksA [⟨0, 0, emptyS⟩] (l.take i)) := hide (by
        unfold ksT
        rw [List.take_of_length_le (show l.length ≤ 300 by omega), List.take_of_length_le (show l.length ≤ i by omega)])
      generalize ksA [⟨0, 0, emptyS⟩] (l.take i) = ks at *
      generalize l.length = n at *
      clear hig hil hi
      go_wp2
      go_ret2
      have e4 := unhide HV
      exact ⟨bA, bR, rfl, by rw [unhide HF]; exact e4⟩
end Go.Proofs.Ytdabgeippkmgaaa
