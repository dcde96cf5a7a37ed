/-
  Texts and bytes that came in, as the walks read them; both arenas made of the same names. The document's list as an object beside others: what a call on it does to all.
-/
import Derived.Test.YtabdgmcajndgbaaSBav
import Derived.Test.YtabdgmcajndgbaaRows
import Derived.ProofKit
import Derived.OpenShut
import Derived.ShutString
import Derived.ChangeOld
import Derived.Deep.Slices
import Derived.SizedLaws
import Derived.Test.YtabdgmcajndgbaaSBbh
namespace Go.Proofs.Ytabdgmcajndgbaa
open Go.ChangeShapes Go.WideShapes Go.ChangeAt Go.RowKit

structure TxtIn (w : World) (a : Option Addr) (l : List ByteArray) : Prop where
  cells : ∀ (i : Nat) x, l[i]? = some x → ∃ b off, a = some ⟨b, off, none⟩ ∧ w.cell? ⟨b, off + i, none⟩ = some (.string x)
structure BytIn (w : World) (a : Option Addr) (l : List Int) : Prop where
  cells : ∀ (i : Nat) x, l[i]? = some x → ∃ b off, a = some ⟨b, off, none⟩ ∧ w.cell? ⟨b, off + i, none⟩ = some (.int .u8 x)
  fit : ∀ x ∈ l, 0 ≤ x ∧ x ≤ 255
theorem TxtIn.below {w w' : World} {a : Option Addr} {l : List ByteArray} (h : TxtIn w a l) (hb : Below w.heap.size w w') : TxtIn w' a l := by
  refine ⟨fun i x hi => ?_⟩
  obtain ⟨b, off, e, c0⟩ := h.cells i x hi
  exact ⟨b, off, e, (hb.cell (p := ⟨b, off + i, none⟩) (World.block_lt_of_cell? w _ c0)).trans c0⟩
theorem BytIn.below {w w' : World} {a : Option Addr} {l : List Int} (h : BytIn w a l) (hb : Below w.heap.size w w') : BytIn w' a l := by
  refine ⟨fun i x hi => ?_, h.fit⟩
  obtain ⟨b, off, e, c0⟩ := h.cells i x hi
  exact ⟨b, off, e, (hb.cell (p := ⟨b, off + i, none⟩) (World.block_lt_of_cell? w _ c0)).trans c0⟩

theorem laidOut : laidOutB Try.prog = true := by kernel_rfl
section
variable {H : Type} {enc : TypeId × Value → H} {W : World} {spare : Nat → Bool} {held : Bool}

theorem addr_plain1 {x : Addr} {v : Value} (h : W.cell? (x.add 0) = some v) : ∃ b off, x = ⟨b, off, none⟩ := by
  obtain ⟨b, off, spot⟩ := x
  have hspot : spot = none := by simpa [Addr.add] using World.cell?_spot h
  exact ⟨b, off, by rw [hspot]⟩
theorem cells_get1 {x : Addr} {n : Nat} {cs : List Value} (h : W.cells? 0 x n = some cs) (j : Nat) (v : Value) (hj : cs[j]? = some v) : W.cell? (x.add j) = some v := by
  obtain ⟨_, hlen, hc⟩ := World.cells?_some h
  have hlt : j < cs.length := (List.getElem?_eq_some_iff.1 hj).1
  simp only [World.cells?, Nat.zero_le, if_true] at h
  have hjn : j < n := by omega
  have := mapM_some_get h j j (by simp [hjn])
  rw [this, hj]

theorem add_at1 (b off j : Nat) : (⟨b, off, none⟩ : Addr).add j = ⟨b, off + j, none⟩ := by simp [Addr.add]
theorem texts_open {a : Option Addr} {len cap : Nat} {d : DataW H} {ps : List MemPlace} (h : DataW.Trod enc Try.prog W 0 spare held 22 (.slice a len cap) d ps) (hw : (d.weights Try.prog 22).all (· ≤ reachBytes) = true) :
    ∃ l : List ByteArray, len = l.length ∧ TxtIn W a l ∧ l.length ≤ 140737488351232 := by
  obtain ⟨fuel, hf⟩ := h
  rcases Go.Deep.open_slice Try.underlying22 hf with ⟨hcs, _⟩ | ⟨x, len', cap', m, n, D, Pl, hcs, _, hlc, hcm, hm, hd, hel⟩
  · simp [Value.cells] at hcs
    obtain ⟨rfl, rfl, rfl⟩ := hcs
    exact ⟨[], rfl, ⟨fun i x hi => by simp at hi⟩, by simp⟩
  · simp [Value.cells] at hcs
    obtain ⟨rfl, rfl, rfl⟩ := hcs
    cases hd
    have hcn : Try.prog.cellsOf 9 = 1 := by kernel_rfl
    have hbn : Try.prog.bytesOf 9 = 16 := by kernel_rfl
    have hlm : len ≤ m := by rw [hm]; split <;> omega
    have one : ∀ i, i < len → ∃ z : ByteArray, ∃ b off, x = ⟨b, off, none⟩ ∧ W.cell? ⟨b, off + i, none⟩ = some (.string z) := by
      intro i hi
      obtain ⟨cs', hcs', htr⟩ := hel i (by omega)
      rw [hcn] at hcs'
      obtain ⟨z, rfl, _, _⟩ := DataW.trod_string Try.underlying9 htr
      have c0 := cells_get1 hcs' 0 _ rfl
      rw [Go.Deep.add_add] at c0
      obtain ⟨i0, hi0⟩ : ∃ i0 : Nat, i0 = 0 := ⟨0, rfl⟩
      obtain ⟨cs0, hcs0, htr0⟩ := hel i0 (by omega)
      rw [hcn] at hcs0
      obtain ⟨z', rfl, _, _⟩ := DataW.trod_string Try.underlying9 htr0
      have p0 := cells_get1 hcs0 0 _ rfl
      rw [Go.Deep.add_add, show i0 * 1 + 0 = 0 by omega] at p0
      obtain ⟨b, off, rfl⟩ := addr_plain1 p0
      rw [show i * 1 + 0 = i by omega, add_at1] at c0
      exact ⟨z, b, off, rfl, c0⟩
    obtain ⟨f, hf'⟩ : ∃ f : Nat → ByteArray, ∀ i, i < len → ∃ b off, x = ⟨b, off, none⟩ ∧ W.cell? ⟨b, off + i, none⟩ = some (.string (f i)) := Go.Deep.choose_lt one
    refine ⟨(List.range len).map f, by simp, ⟨fun i y hi => ?_⟩, ?_⟩
    · have hlt : i < len := by have := (List.getElem?_eq_some_iff.1 hi).1; simpa using this
      have hy : f i = y := by simpa [hlt] using hi
      obtain ⟨b, off, e, c0⟩ := hf' i hlt
      subst hy
      exact ⟨b, off, by rw [e], c0⟩
    · have := List.all_eq_true.1 hw (((List.range len).map D).length * 16 + ((List.range (m - len)).map fun j => D (len + j)).length * 16) (by simp [DataW.weights, Try.underlying22, hbn, Nat.add_mul])
      simp [reachBytes] at this
      simp
      omega
end

def ksA (ks : List Key) (l : List ByteArray) : List Key := l.foldl (fun ks c => (elemK ks 0 c).1) ks
/-- The nodes of the arenas that are made of l. -/
def ksT (l : List ByteArray) : List Key := ksA [⟨0, 0, emptyS⟩] (l.take 300)
theorem ksA_next {l : List ByteArray} {i : Nat} {c : ByteArray} (h : l[i]? = some c) : ksA [⟨0, 0, emptyS⟩] (l.take (i + 1)) = (elemK (ksA [⟨0, 0, emptyS⟩] (l.take i)) 0 c).1 := by
  obtain ⟨hlt, rfl⟩ := List.getElem?_eq_some_iff.1 h
  rw [List.take_succ_eq_append_getElem hlt, ksA, List.foldl_append]
  rfl
theorem elemK_sp {ks : List Key} (h : ∀ q ∈ ks, q.space = 0) (c : ByteArray) : ∀ q ∈ (elemK ks 0 c).1, q.space = 0 := by
  have ap : ∀ (m : List Key), (∀ q ∈ m, q.space = 0) → ∀ q ∈ ks ++ m, q.space = 0 := fun m hm q hq => (List.mem_append.1 hq).elim (h q) (hm q)
  unfold elemK addK
  split
  · exact h
  · split
    · exact h
    · split
      · split
        · exact ap _ (by simp)
        · exact h
      · split
        · exact ap _ (by simp)
        · exact h
theorem ksA_sp : ∀ (l : List ByteArray) (ks : List Key), (∀ q ∈ ks, q.space = 0) → ∀ q ∈ ksA ks l, q.space = 0
  | [], _, h => h
  | c :: l, _, h => ksA_sp l _ (elemK_sp h c)
theorem ksT_sp (l : List ByteArray) : ∀ q ∈ ksT l, q.space = 0 := ksA_sp _ _ (by simp)

set_option maxHeartbeats 4000000 in
theorem arenas_any (w : World) (a : Option Addr) (l : List ByteArray) (cap : Nat) (hin : TxtIn w a l) (hl : l.length ≤ 140737488351232) :
    Calls Try.prog 4 #[.slice a l.length cap] w fun e w' => ∃ bA bR, e = .returned (.tuple #[.pointer (some ⟨bA, 0, none⟩), .pointer (some ⟨bR, 0, none⟩)]) ∧ Env w w' [arOb _ bA (ksT l), rfOb _ bR (ksT l)] := by
  have HIN := hide hin
  have H0 := hide (Env.start w)
  have hlz : (l.length : Int) ≤ 140737488351232 := by omega
  clear hin hl
  go_enter Try.func4, Try.ntmps4
  go_wp2_with (first
    | (go_at_call 15; refine (env_new (unhide H0)).mono ?_; rintro e w1 ⟨bA, rfl, hv⟩; have H1 := hide hv; clear hv)
    | (go_at_call 16; refine (env_rnew (unhide H1)).mono ?_; rintro e w2 ⟨bR, rfl, hv⟩; have H2 := hide hv; clear hv))
  go_loopg [6] 300 (fun g s6 wr => ∃ i : Nat, s6 = .int .i64 (i : Int) ∧ i + g = 300 ∧ i ≤ l.length ∧ Env w wr [arOb _ bA (ksA [⟨0, 0, emptyS⟩] (l.take i)), rfOb _ bR (ksA [⟨0, 0, emptyS⟩] (l.take i))])
  case atStart => exact ⟨0, rfl, by omega, Nat.zero_le _, unhide H2⟩
  case round =>
    obtain ⟨i, rfl, hig, hil, hv⟩ := hrel
    have HV := hide hv
    have HG := hide hig
    clear hv
    by_cases hi : i < l.length
    · have hiz : (i : Int) < (l.length : Int) := by omega
      by_cases h3 : i < 300
      · have h3z : (i : Int) < 300 := by omega
        obtain ⟨c, hc⟩ : ∃ c, l[i]? = some c := ⟨_, List.getElem?_eq_getElem hi⟩
        obtain ⟨b, off, rfl, _⟩ := (unhide HIN).cells i c hc
        have HC : Hid (∀ wx, Below w.heap.size w wx → wx.cell? ⟨b, off + i, none⟩ = some (.string c)) := hide (fun wx hb => by
          obtain ⟨b', off', e, c0⟩ := ((unhide HIN).below hb).cells i c hc
          cases e
          exact c0)
        have HN := hide (ksA_next hc)
        generalize ksA [⟨0, 0, emptyS⟩] (l.take i) = ks at *
        generalize hlen : l.length = n at *
        have HLEN := hide hlen
        have q0 := (unhide HC) wr (unhide HV).bel
        have HI := hide hi
        have HIL := hide hil
        have HH3 := hide h3
        clear hig hil hi h3 hc hlen
        go_wp2_with (first | (go_at_call 17; refine (env_elem (wx := _) (by first | exact unhide HV | exact (unhide HV).more (Below.refl _ _).drew | exact (unhide HV).more (below_dn (Below.refl _ _) _) | exact (unhide HV).more (Below.refl _ _).drew.drew) (i := 0) (bA := bA) rfl 0 c).mono ?_; rintro e w3 ⟨rfl, hv⟩; have E3 := hide hv; have r0 := (unhide HC) w3 hv.bel; clear hv) | (go_at_call 18; refine (env_relem (wx := _) (by first | exact unhide E3 | exact (unhide E3).more (Below.refl _ _).drew | exact (unhide E3).more (below_dn (Below.refl _ _) _) | exact (unhide E3).more (Below.refl _ _).drew.drew) (i := 1) (bR := bR) rfl 0 c).mono ?_; rintro e w4 ⟨rfl, hv⟩; have E4 := hide hv; clear hv))
        all_goals go_roundg (gk - 1)
        all_goals first | (case measure => have := unhide HG; have := unhide HH3; omega) | skip
        all_goals exact ⟨i + 1, by go_num, by have := unhide HG; have := unhide HH3; omega, by have := unhide HI; have := unhide HLEN; omega, by rw [unhide HN]; exact unhide E4⟩
      · obtain rfl : i = 300 := by omega
        have HF : Hid (ksT l = ksA [⟨0, 0, emptyS⟩] (l.take 300)) := hide rfl
        generalize l.length = n at *
        generalize ksA [⟨0, 0, emptyS⟩] (l.take 300) = ks at *
        clear hig hil h3 hi
        go_wp2
        go_ret2
        have e4 := unhide HV
        exact ⟨bA, bR, rfl, by rw [unhide HF]; exact e4⟩
    · have hiz : ¬ (i : Int) < (l.length : Int) := by omega
      have HF : Hid (ksT l = ksA [⟨0, 0, emptyS⟩] (l.take i)) := hide (by
        unfold ksT
        rw [List.take_of_length_le (show l.length ≤ 300 by omega), List.take_of_length_le (show l.length ≤ i by omega)])
      generalize ksA [⟨0, 0, emptyS⟩] (l.take i) = ks at *
      generalize l.length = n at *
      clear hig hil hi
      go_wp2
      go_ret2
      have e4 := unhide HV
      exact ⟨bA, bR, rfl, by rw [unhide HF]; exact e4⟩
end Go.Proofs.Ytabdgmcajndgbaa

namespace Go.Proofs.Ytabdgmcajndgbaa
open Go.RowKit Go.Sort

/-- The document's list as an object; its entries' attributes lie in the world that came in. -/
structure QlC (w wx : World) (bQ bR : Nat) (v : Value) (qs : List EntQ) : Prop where
  box : wx.heap[bQ]? = some (.cells #[.pointer (some ⟨bR, 0, none⟩), v] 43 (0, 0))
  own : wx.ownsRow w.heap.size 46 10 v qs.length (qRow qs)
  attrs : ∀ (i : Nat) x, qs[i]? = some x → AttrsIn w x.a x.tok.attrs ∧ ∀ b off, x.a = some ⟨b, off, none⟩ → x.tok.attrs ≠ [] → b < w.heap.size
  lo : w.heap.size ≤ bQ
theorem QlC.lt {w wx : World} {bQ bR : Nat} {v : Value} {qs : List EntQ} (h : QlC w wx bQ bR v qs) {k : Nat} (hk : footQ bQ v k) : w.heap.size ≤ k ∧ k < wx.heap.size := by
  rcases hk with rfl | hk
  · exact ⟨h.lo, lt_of_block h.box⟩
  · exact h.own.lt k hk
def qOb (w : World) (bQ bR : Nat) (qs : List EntQ) : Ob w.heap.size := ⟨fun wx F => ∃ v, QlC w wx bQ bR v qs ∧ ∀ k, F k ↔ footQ bQ v k, fun _ _ k ⟨_, h, hF⟩ hk => h.lt ((hF k).1 hk), fun _ _ _ _ ⟨v, h, hF⟩ hm hG => ⟨v, ⟨(hm.block bQ (lt_of_block h.box) (hG bQ ((hF bQ).2 (.inl rfl)))).trans h.box, ownsRow_kept h.own (fun k hk => hm.block k (h.own.lt k hk).2 (hG k ((hF k).2 (.inr hk)))), h.attrs, h.lo⟩, hF⟩⟩
section
variable {w wx : World} {obs : List (Ob w.heap.size)} {i bQ bR : Nat} {qs : List EntQ}
theorem QlC.of {v : Value} (hb : Below w.heap.size w wx) (h : QlC w wx bQ bR v qs) : QlM wx w.heap.size bQ bR v qs := ⟨h.box, h.own, fun i x hx => ⟨(h.attrs i x hx).1.modN (fun b off e hne => hb.block b ((h.attrs i x hx).2 b off e hne)), (h.attrs i x hx).2⟩, h.lo⟩
theorem QlC.to {v : Value} (hb : Below w.heap.size w wx) (h : QlM wx w.heap.size bQ bR v qs) : QlC w wx bQ bR v qs := ⟨h.box, h.own, fun i x hx => ⟨(h.attrs i x hx).1.modN (fun b off e hne => (hb.block b ((h.attrs i x hx).2 b off e hne)).symm), (h.attrs i x hx).2⟩, h.lo⟩
theorem Env.q (h : Env w wx obs) (hi : obs[i]? = some (qOb w bQ bR qs)) : ∃ F v, QlM wx w.heap.size bQ bR v qs ∧ (∀ k, F k ↔ footQ bQ v k) ∧ ∀ w2 qs2, UpdQ F wx w2 w.heap.size bQ bR qs2 → Env w w2 (obs.set i (qOb w bQ bR qs2)) := by
  obtain ⟨F, ⟨v, ho, hF⟩, _, hk⟩ := h.upd hi
  refine ⟨F, v, QlC.of h.bel ho, hF, fun w2 qs2 hu => ?_⟩
  obtain ⟨F', ⟨v2, h1, hF2⟩, h2, h3⟩ := hu
  have hb : Below w.heap.size w w2 := h.bel.trans (h2.below h.bel.size (fun k e => (ho.lt ((hF k).1 e)).1))
  exact hk w2 (qOb w bQ bR qs2) F' ⟨v2, QlC.to hb h1, hF2⟩ h2 h3
theorem aqnew_any (h : Env w wx obs) : Calls Try.prog 6 #[.pointer (some ⟨bR, 0, none⟩)] wx fun e w' => ∃ bQ, e = .returned (.pointer (some ⟨bQ, 0, none⟩)) ∧ Env w w' (obs ++ [qOb w bQ bR []]) := by
  refine (qnew_any (base := w.heap.size) h.bel.size).mono ?_
  rintro e w' ⟨bQ, F, rfl, ⟨v, h1, hF⟩, h2, h3⟩
  exact ⟨bQ, rfl, h.add h2 (o := qOb w bQ bR []) (F := F) ⟨v, QlC.to (h.bel.trans (h2.mono h.bel.size)) h1, hF⟩ h3⟩
end
section
variable {w wx : World} {obs : List (Ob w.heap.size)} {i j bQ bR : Nat} {ks : List Key} {qs : List EntQ}
theorem env_qpush (h : Env w wx obs) (hi : obs[i]? = some (rfOb _ bR ks)) (hj : obs[j]? = some (qOb w bQ bR qs)) (hl : qs.length < 1000000000000) (hok : QOk ks qs) (id : Int) (t : TokM) (pa : Option Addr) (pc : Nat) (hta : AttrsIn w pa t.attrs) (hlo : ∀ b off, pa = some ⟨b, off, none⟩ → t.attrs ≠ [] → b < w.heap.size) (hln : t.attrs.length ≤ 2513169434916) : Calls Try.prog 21 #[.pointer (some ⟨bQ, 0, none⟩), .int .i64 id, .agg (t.cells (.slice pa t.attrs.length pc)).toArray] wx fun e w' => e = .returned (.int .i64 (pushR ks qs id)) ∧ Env w w' (obs.set j (qOb w bQ bR (pushQ ks qs id t pa pc))) := by
  obtain ⟨FR, hr, _⟩ := h.rf hi
  obtain ⟨F, v, hq, hF, hk⟩ := h.q hj
  exact (qpush_any hq hF hr hl hok id t pa pc (hta.below h.bel) hlo hln).mono fun _ _ ⟨a, b⟩ => ⟨a, hk _ _ b⟩
theorem env_qmark (h : Env w wx obs) (hj : obs[j]? = some (qOb w bQ bR qs)) (hl : qs.length < 1000000000000) : Calls Try.prog 22 #[.pointer (some ⟨bQ, 0, none⟩)] wx fun e w' => e = .returned (.tuple #[]) ∧ Env w w' (obs.set j (qOb w bQ bR (qs ++ [markQ]))) := by
  obtain ⟨F, v, hq, hF, hk⟩ := h.q hj
  exact (qmark_any hq hF hl).mono fun _ _ ⟨a, b⟩ => ⟨a, hk _ _ b⟩
theorem env_qclear (h : Env w wx obs) (hj : obs[j]? = some (qOb w bQ bR qs)) (hl : qs.length < 1000000000000) : Calls Try.prog 25 #[.pointer (some ⟨bQ, 0, none⟩)] wx fun e w' => e = .returned (.int .i64 ((qs.length : Int) - (keepQ qs qs.length : Int))) ∧ Env w w' (obs.set j (qOb w bQ bR (qs.take (keepQ qs qs.length)))) := by
  obtain ⟨F, v, hq, hF, hk⟩ := h.q hj
  exact (qclear_any hq hF hl).mono fun _ _ ⟨a, b⟩ => ⟨a, hk _ _ b⟩
theorem env_qlast (h : Env w wx obs) (hi : obs[i]? = some (rfOb _ bR ks)) (hj : obs[j]? = some (qOb w bQ bR qs)) (hl : qs.length < 1000000000000) (hok : QOk ks qs) (nm : ByteArray) : Calls Try.prog 27 #[.pointer (some ⟨bQ, 0, none⟩), .string nm] wx fun e w' => e = .returned (.int .i64 (lastQ ks nm qs qs.length)) ∧ Env w w' obs := by
  obtain ⟨FR, hr, _⟩ := h.rf hi
  obtain ⟨F, v, hq, hF, hk⟩ := h.q hj
  exact (qlast_any hq hr hl hok nm).mono fun _ _ ⟨a, b⟩ => ⟨a, h.more b⟩
theorem env_qrem (h : Env w wx obs) (hj : obs[j]? = some (qOb w bQ bR qs)) (hl : qs.length < 1000000000000) (id : Int) : Calls Try.prog 29 #[.pointer (some ⟨bQ, 0, none⟩), .int .i64 id] wx fun e w' => e = .returned (.int .i64 (remR qs id)) ∧ Env w w' (obs.set j (qOb w bQ bR (remQ qs id))) := by
  obtain ⟨F, v, hq, hF, hk⟩ := h.q hj
  exact (qrem_any hq hF hl id).mono fun _ _ ⟨a, b⟩ => ⟨a, hk _ _ b⟩
theorem env_qput (h : Env w wx obs) (hi : obs[i]? = some (rfOb _ bR ks)) (hj : obs[j]? = some (qOb w bQ bR qs)) (hl : qs.length < 1000000000000) (n id : Int) (t : TokM) (pa : Option Addr) (pc : Nat) (hta : AttrsIn w pa t.attrs) (hlo : ∀ b off, pa = some ⟨b, off, none⟩ → t.attrs ≠ [] → b < w.heap.size) : Calls Try.prog 31 #[.pointer (some ⟨bQ, 0, none⟩), .int .i64 n, .int .i64 id, .agg (t.cells (.slice pa t.attrs.length pc)).toArray] wx fun e w' => e = .returned (.int .i64 (putRq ks qs n id)) ∧ Env w w' (obs.set j (qOb w bQ bR (putQ ks qs n id t pa pc))) := by
  obtain ⟨FR, hr, _⟩ := h.rf hi
  obtain ⟨F, v, hq, hF, hk⟩ := h.q hj
  exact (qput_any hq hF hr hl n id t pa pc (hta.below h.bel) hlo).mono fun _ _ ⟨a, b⟩ => ⟨a, hk _ _ b⟩
theorem env_qswap (h : Env w wx obs) (hi : obs[i]? = some (rfOb _ bR ks)) (hj : obs[j]? = some (qOb w bQ bR qs)) (hl : qs.length < 1000000000000) (old id : Int) : Calls Try.prog 33 #[.pointer (some ⟨bQ, 0, none⟩), .int .i64 old, .int .i64 id] wx fun e w' => e = .returned (.int .i64 (swRq ks qs old id)) ∧ Env w w' (obs.set j (qOb w bQ bR (swQ ks qs old id))) := by
  obtain ⟨FR, hr, _⟩ := h.rf hi
  obtain ⟨F, v, hq, hF, hk⟩ := h.q hj
  exact (qswap_any hq hF hr hl old id).mono fun _ _ ⟨a, b⟩ => ⟨a, hk _ _ b⟩
theorem env_qfind (h : Env w wx obs) (hj : obs[j]? = some (qOb w bQ bR qs)) (hl : qs.length < 1000000000000) (id : Int) : Calls Try.prog 10 #[.pointer (some ⟨bQ, 0, none⟩), .int .i64 id] wx fun e w' => e = .returned (.int .i64 (findQ qs id)) ∧ wx = w' := by
  obtain ⟨F, v, hq, hF, hk⟩ := h.q hj
  exact qfind_any hq hl id
theorem env_qat (h : Env w wx obs) (hj : obs[j]? = some (qOb w bQ bR qs)) (n : Nat) {x : EntQ} (hx : qs[n]? = some x) : Calls Try.prog 12 #[.pointer (some ⟨bQ, 0, none⟩), .int .i64 n] wx fun e w' => e = .returned (.tuple #[x.agg, .int .i64 0]) ∧ Env w w' obs := by
  obtain ⟨F, v, hq, hF, hk⟩ := h.q hj
  exact (qat_yes hq n hx).mono fun _ _ ⟨a, b⟩ => ⟨a, h.more b⟩
theorem env_qat_no (h : Env w wx obs) (hj : obs[j]? = some (qOb w bQ bR qs)) (n : Int) (hn : n < 0 ∨ (qs.length : Int) ≤ n) : Calls Try.prog 12 #[.pointer (some ⟨bQ, 0, none⟩), .int .i64 n] wx fun e w' => e = .returned (.tuple #[zeroEV, .int .i64 1]) ∧ Env w w' obs := by
  obtain ⟨F, v, hq, hF, hk⟩ := h.q hj
  exact (qat_no hq n hn).mono fun _ _ ⟨a, b⟩ => ⟨a, h.more b⟩
end
/-- Both arenas, both lists. -/
def E4 (w wx : World) (bA bR bL bQ : Nat) (ks : List Key) (qs : List EntQ) : Prop := Env w wx [arOb _ bA ks, rfOb _ bR ks, liOb _ bL bA (esOf ks qs), qOb w bQ bR qs]
theorem e5_four {w W : World} {bA bR bL bQ : Nat} {ks : List Key} {qs : List EntQ} {o : Ob w.heap.size} (h : Env w W [arOb _ bA ks, rfOb _ bR ks, liOb _ bL bA (esOf ks qs), qOb w bQ bR qs, o]) : E4 w W bA bR bL bQ ks qs := h.take 4
/-- A call of the law's: what it is, its numbers, its text, its token, where the token's attributes lie. -/
structure OpM where
  what : Int
  a : Int
  b : Int
  n : Int
  text : ByteArray
  tok : TokM
  pa : Option Addr
  pc : Nat
def OpM.cells (o : OpM) : List Value := .int .i64 o.what :: .int .i64 o.a :: .int .i64 o.b :: .int .i64 o.n :: .string o.text :: o.tok.cells (.slice o.pa o.tok.attrs.length o.pc)
structure OpOk (w : World) (o : OpM) : Prop where
  ins : AttrsIn w o.pa o.tok.attrs
  lo : ∀ b off, o.pa = some ⟨b, off, none⟩ → o.tok.attrs ≠ [] → b < w.heap.size
  few : o.tok.attrs.length ≤ 2513169434916
def stepQ (ks : List Key) (qs : List EntQ) (o : OpM) : List EntQ :=
  if o.what = 0 then pushQ ks qs o.a o.tok o.pa o.pc
  else if o.what = 1 then qs ++ [markQ]
  else if o.what = 2 then qs.take (keepQ qs qs.length)
  else if o.what = 3 then qs
  else if o.what = 4 then remQ qs o.a
  else if o.what = 5 then putQ ks qs o.n o.a o.tok o.pa o.pc
  else swQ ks qs o.b o.a
theorem GoodQ.step {w : World} {ks : List Key} {qs : List EntQ} (h : GoodQ ks qs) (o : OpM) (ho : OpOk w o) : GoodQ ks (stepQ ks qs o) ∧ (stepQ ks qs o).length ≤ qs.length + 1 := by
  unfold stepQ
  split
  · exact h.push _ _ _ _ ho.few
  · split
    · exact ⟨h.mark, by simp⟩
    · split
      · exact ⟨h.sub (List.take_sublist _ _), by have := (List.take_sublist (keepQ qs qs.length) qs).length_le; omega⟩
      · split
        · exact ⟨h, by omega⟩
        · split
          · have hs := rem_sub qs o.a
            exact ⟨h.sub hs, by have := hs.length_le; omega⟩
          · split
            · exact h.put _ _ _ _ _ ho.few
            · have := h.swap o.b o.a
              exact ⟨this.1, by omega⟩
end Go.Proofs.Ytabdgmcajndgbaa
