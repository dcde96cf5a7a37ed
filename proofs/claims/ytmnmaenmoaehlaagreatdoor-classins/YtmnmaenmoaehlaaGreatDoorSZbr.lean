/-
  Inner: what is in a node of an arena, as text. Text, by the document and by the program. Nodes to be made that came in, as the walk reads them.
-/
import Derived.Test.YtmnmaenmoaehlaaGreatDoorSZbf
import Derived.Test.YtmnmaenmoaehlaaGreatDoorSZad
import Derived.Test.YtmnmaenmoaehlaaGreatDoorSZbq
import Derived.Test.YtmnmaenmoaehlaaGreatDoorSZaa
import Derived.ProofKit
import Derived.OpenShut
import Derived.ShutString
import Derived.ChangeOld
import Derived.Deep.Slices
import Derived.SizedLaws
namespace Go.Proofs.YtmnmaenmoaehlaaGreatDoor
open Go.RowKit Go.Lib

theorem wstring_any {bA : Nat} {sc : Bool} {B bw : Nat} {l : List UInt8} {w : World} (h : Wr bA sc B bw l w) (hB : B ≤ w.heap.size) : Calls Tryz.prog 48 #[.pointer (some ⟨bw, 2, none⟩)] w fun e w' => e = .returned (.string ⟨l.toArray⟩) ∧ Below B w w' := by
  rcases h with h | h
  · exact string_any (bokW bA sc) h hB
  · exact string_any (bokW bA sc) h hB
theorem wr_fresh (bA : Nat) (sc : Bool) (B : Nat) (w : World) (hB : B ≤ w.heap.size) : Wr bA sc B w.heap.size [] (w.alloc (.cells #[.pointer (some ⟨bA, 0, none⟩), .bool sc, .pointer none, .slice none 0 0] 105)) :=
  .inl ⟨hB, .slice none 0 0, heap_alloc_new w _, World.ownsRowF_nil _ _ _ _, by simp [Value.ownBlock]⟩

set_option maxHeartbeats 4000000 in
theorem inner_in {W0 : World} {base bA : Nat} {ns : List NodeM} {os : List OneM} {F : Nat → Prop} (h : ArS W0 base bA ns F) (hs : Sim ns os) {i : Nat} {o : OneM} (ho : os[i]? = some o) (sc : Bool) (hlen : costN os (os.length + 1) i + 100 ≤ 140737488355328) :
    Calls Tryz.prog 21 #[.pointer (some ⟨bA, 0, none⟩), .int .i64 i, .bool sc] W0 fun e w' => e = .returned (.tuple #[.string ⟨(inL os sc (os.length + 1) i).toArray⟩, .int .i64 0]) ∧ Below W0.heap.size W0 w' := by
  have hN := NodeC.of h
  obtain ⟨nd, hnd, sm⟩ := hs.get ho
  obtain ⟨path, hp⟩ := hs.ends i (List.getElem?_eq_some_iff.1 ho).1
  have hA : ∀ (i : Nat) m, ns[i]? = some m → m.attrs.length ≤ 100000 := by
    intro i m hm
    obtain ⟨bS, g, cap, h, _⟩ := h
    have := h.few i m hm
    omega
  have HI := hidE (fun bw => inside_all (bw := bw) (sc := sc) hN hs hA (os.length + 1) i path o nd hp (by omega) ho hnd)
  have HN := hidE (hN W0 (Below.refl _ _) i nd hnd)
  generalize inL os sc (os.length + 1) i = out at HI
  generalize costN os (os.length + 1) i = cost at HI hlen
  have HLEN := hidE hlen
  clear hlen hN hA hp hnd ho hs h sm
  go_enter Tryz.func21, Tryz.ntmps21
  go_wp2_with (go_at_call 20; refine (unhidE HN).mono ?_; rintro e w1 ⟨ao, cp, rfl, _, hb1⟩; have HB1 := hidE hb1; clear hb1)
  have hbz := (unhidE HB1).size
  have hbb : Below W0.heap.size W0 ((w1.alloc (.cells #[.int .i64 nd.kind, .int .i64 nd.space, .string nd.name, .slice ao nd.attrs.length cp, .string nd.data, .string nd.system, .int .i64 nd.parent, .int .i64 nd.first, .int .i64 nd.last, .int .i64 nd.prev, .int .i64 nd.next, .int .i64 nd.inner] 51)).alloc (.cells #[.pointer (some ⟨bA, 0, none⟩), .bool sc, .pointer none, .slice none 0 0] 105)) := ((unhidE HB1).alloc hbz _).alloc (by simp; omega) _
  have hw0 := wr_fresh bA sc W0.heap.size (w1.alloc (.cells #[.int .i64 nd.kind, .int .i64 nd.space, .string nd.name, .slice ao nd.attrs.length cp, .string nd.data, .string nd.system, .int .i64 nd.parent, .int .i64 nd.first, .int .i64 nd.last, .int .i64 nd.prev, .int .i64 nd.next, .int .i64 nd.inner] 51)) (by simp; omega)
  rw [show (w1.alloc (.cells #[.int .i64 nd.kind, .int .i64 nd.space, .string nd.name, .slice ao nd.attrs.length cp, .string nd.data, .string nd.system, .int .i64 nd.parent, .int .i64 nd.first, .int .i64 nd.last, .int .i64 nd.prev, .int .i64 nd.next, .int .i64 nd.inner] 51)).heap.size = w1.heap.size + 1 by simp] at hw0
  refine ((unhidE HI) _ _ [] ao cp hbb hw0 (by have := unhidE HLEN; simp; omega)).mono ?_
  rintro e w5 ⟨rfl, hw5, hn5⟩
  rw [List.nil_append] at hw5
  have HS := hidE (wstring_any hw5 (Nat.le_trans hbb.size hn5.size))
  have HB5 := hidE (hbb.trans hn5.below)
  clear hw0 hw5 hn5 hbb
  go_wp2_with (go_at_call 48; refine (unhidE HS).mono ?_; rintro e w6 ⟨rfl, hb6⟩; have HB6 := hidE ((unhidE HB5).trans hb6); clear hb6)
  go_ret2
  exact ⟨rfl, unhidE HB6⟩

set_option maxHeartbeats 1000000 in
theorem inner_no {W0 : World} {base bA : Nat} {ns : List NodeM} {os : List OneM} {F : Nat → Prop} (h : ArS W0 base bA ns F) (hs : Sim ns os) {k : Int} (hk : hasO os k = false) (sc : Bool) :
    Calls Tryz.prog 21 #[.pointer (some ⟨bA, 0, none⟩), .int .i64 k, .bool sc] W0 fun e w' => e = .returned (.tuple #[.string ⟨#[]⟩, .int .i64 6]) ∧ Below W0.heap.size W0 w' := by
  have HN := hidE (node_no h k (by rw [hs.hasM]; exact hk))
  unfold nodeZ at HN
  clear h hs hk
  go_enter Tryz.func21, Tryz.ntmps21
  go_wp2_with (go_at_call 20; refine (unhidE HN).mono ?_; rintro e w1 ⟨rfl, hb1⟩; have HB1 := hidE hb1; clear hb1)
  go_ret2
  exact ⟨rfl, (unhidE HB1).alloc (unhidE HB1).size _⟩
end Go.Proofs.YtmnmaenmoaehlaaGreatDoor

namespace Go.Proofs.YtmnmaenmoaehlaaGreatDoor
open Go.RowKit Go.Lib

/-- The text of a document of the class, or none. -/
def txtO (os : List OneM) : List UInt8 × Int := if famF os (os.length + 5) 0 0 then (match kidsAt os 0 with | [h] => inL os false (os.length + 1) h | _ => [], 0) else ([], 4)
theorem fam_root {os : List OneM} (hP : PgO os) (hf : famF os (os.length + 5) 0 0 = true) : ∃ h c, kidsAt os 0 = [h] ∧ os[h]? = some c := by
  rw [← in_fam hP] at hf
  match hk : kidsAt os 0 with
  | [] => rw [hk] at hf; cases hf
  | [h] =>
    rw [hk] at hf
    have hf : (bareAt os h [104, 116, 109, 108] && pairD os (os.length + 2) (kidsAt os h)) = true := hf
    unfold bareAt at hf
    cases hh : os[h]? with
    | none => rw [hh] at hf; cases hf
    | some c => exact ⟨h, c, rfl, hh⟩
  | x :: y :: t => rw [hk] at hf; cases hf

set_option maxHeartbeats 4000000 in
set_option maxRecDepth 100000 in
theorem xtext_any {w : World} {base bR g cap : Nat} {rs : List OneR} (h : Rf w base bR g cap rs) {ns : List NodeM} {os : List OneM} (ho : osOf rs = os) (hs : Sim ns os) (hE : Ext os) (hP : PgO os) (hc : ∀ i o, os[i]? = some o → costN os (os.length + 1) i ≤ 10000000000000) :
    (Calls Tryz.prog 8 #[.pointer (some ⟨bR, 0, none⟩)] w fun e w' => e = .returned (.bool (famF os (os.length + 5) 0 0)) ∧ Below w.heap.size w w') ∧
    (Calls Tryz.prog 6 #[.pointer (some ⟨bR, 0, none⟩)] w fun e w' => (∃ s : ByteArray, e = .returned (.tuple #[.string s, .int .i64 (txtO os).2]) ∧ s.data.toList = (txtO os).1) ∧ Below w.heap.size w w') := by
  obtain ⟨o0, h0, _, _⟩ := hP.top
  obtain ⟨r0, hr0, hro0⟩ := rs_of (by rw [ho]; exact h0)
  have hin := xin_any h (os.length + 2) r0 hr0 (fun q rq hq => by
    have hq2 := osOf_get hq
    rw [ho] at hq2
    have hok := hE q rq.o hq2
    refine ⟨hok.short, hok.few, fun k hk => ?_⟩
    obtain ⟨c, hc', _⟩ := hs.down q rq.o k hq2 hk
    obtain ⟨rk, hrk, _⟩ := rs_of (by rw [ho]; exact hc')
    exact ⟨rk, hrk⟩) (fun a t b rh hk0 hrt hkt rb hrb W hW => by
    have ht2 := osOf_get hrt
    rw [ho] at ht2
    have hb2 := osOf_get hrb
    rw [ho] at hb2
    obtain ⟨path, hp⟩ := hs.ends b (List.getElem?_eq_some_iff.1 hb2).1
    have := xkids_all h ho hs hE (os.length + 2) b path rb.o true 3 hp (by omega) hb2 (by omega) W hW
    rw [ho]
    exact this)
  rw [ho, in_fam hP] at hin
  refine ⟨hin, ?_⟩
  obtain ⟨aa, ca, ak, ck, _, hints, hkl, ⟨hiz, hmz⟩, hcc⟩ := rf_node h hr0
  have hrn : 0 < rs.length := by omega
  cases hf : famF os (os.length + 5) 0 0 with
  | false =>
    have e : txtO os = ([], 4) := by unfold txtO; rw [hf]; rfl
    rw [e]
    rw [hf] at hin
    have HIN := hide hin
    clear hin h ho hs hE hP hc h0 hr0 hro0 hints hcc e hf
    go_enter Tryz.func6, Tryz.ntmps6
    go_wp2_with (go_at_call 8; refine (unhide HIN).mono ?_; rintro e w1 ⟨rfl, hb⟩; have HB1 := hide hb; clear hb)
    go_ret2
    exact ⟨⟨⟨#[]⟩, rfl, rfl⟩, unhide HB1⟩
  | true =>
    obtain ⟨t, c, hk0, hct⟩ := fam_root hP hf
    have e : txtO os = (inL os false (os.length + 1) t, 0) := by unfold txtO; rw [hf, hk0]; rfl
    rw [e]
    rw [hf] at hin
    have hk : r0.o.kids = [t] := by
      have := kidsAt_of hr0
      rw [ho, hk0] at this
      exact this.symm
    rw [hk] at hints
    obtain ⟨b, off, rfl, hkc⟩ := ints_kept hints (j := 0) (k := t) rfl
    have HRI := hide (fun W (hW : Below w.heap.size w W) => rinner_in (h.below hW) ho hs hE false hct (hc t c hct))
    have HCC := hide (fun W (hW : Below w.heap.size w W) => show W.cell? ⟨bR, 0, none⟩ = some (.slice (some ⟨g, 0, none⟩) rs.length cap) ∧ W.cell? ⟨g, 9, none⟩ = some (.slice (some ⟨b, off, none⟩) 1 ck) ∧ W.cell? ⟨b, off, none⟩ = some (.int .i64 (t : Nat)) from by
      obtain ⟨a0, _, _, _, _, _, _, _, _, _, p9⟩ := hcc W hW
      rw [hk, Nat.zero_mul, Nat.zero_add] at p9
      exact ⟨a0, p9, hkc W hW⟩)
    have HIN := hide hin
    clear hin h ho hs hE hP hc h0 hr0 hro0 hints hcc e hf hk hk0 hct hkc
    go_enter Tryz.func6, Tryz.ntmps6
    go_wp2_with (first
      | (go_at_call 8; refine (unhide HIN).mono ?_; rintro e w1 ⟨rfl, hb⟩; have HB1 := hide hb; obtain ⟨m1, m2, m3⟩ := (unhide HCC) _ hb; clear hb)
      | (go_at_call 22; refine ((unhide HRI) _ (unhide HB1)).mono ?_; rintro e w2 ⟨⟨s, rfl, hsd⟩, hb⟩; have HSD := hide hsd; have HB2 := hide ((unhide HB1).trans (hb.mono (unhide HB1).size)); clear hb hsd))
    go_ret2
    exact ⟨⟨_, rfl, unhide HSD⟩, unhide HB2⟩

set_option maxHeartbeats 4000000 in
set_option maxRecDepth 100000 in
theorem ctext_any {w : World} {base bA : Nat} {ns : List NodeM} {os : List OneM} {F : Nat → Prop} (h : ArS w base bA ns F) (hs : Sim ns os) (hE : Ext os) (hP : PgO os) (hmax : os.length ≤ 32768) (hg : GV w) (hc : ∀ i o, os[i]? = some o → costN os (os.length + 1) i ≤ 10000000000000) :
    Calls Tryz.prog 5 #[.pointer (some ⟨bA, 0, none⟩)] w fun e w' => (∃ s : ByteArray, e = .returned (.tuple #[.string s, .int .i64 (txtO os).2]) ∧ s.data.toList = (txtO os).1) ∧ Below w.heap.size w w' := by
  obtain ⟨o0, ho0, hk0, ha0⟩ := hP.top
  obtain ⟨n0, hn0, hsame0⟩ := hs.get ho0
  have hfirst := (hs.first_nil hn0 ho0).1
  have HN := hide (node_in h 0 n0 hn0)
  have HIN := hide (fun W (hW : Below w.heap.size w W) => callsIn_wide.1 (cin_any (h.below hW) hs hE hP hmax (hg.below hW)))
  cases hf : famF os (os.length + 5) 0 0 with
  | false =>
    have e : txtO os = ([], 4) := by unfold txtO; rw [hf]; rfl
    rw [e]
    rw [hf] at HIN
    clear h hs hE hP hg hc ho0 hn0 hsame0 hfirst e hf
    go_enter Tryz.func5, Tryz.ntmps5
    go_wp2_with (first
      | (go_at_call 20; refine (unhide HN).mono ?_; rintro e w1 ⟨ao, cp, rfl, _, hb, _⟩; have HB1 := hide (hb.alloc hb.size (nodeB n0 ao cp)); unfold nodeB at HB1; clear hb; unfold nodeV NodeM.cells)
      | (go_at_call 7; refine ((unhide HIN) _ (unhide HB1)).mono ?_; rintro e w2 ⟨rfl, hb⟩; have HB2 := hide ((unhide HB1).trans (hb.mono (unhide HB1).size)); clear hb))
    go_ret2
    exact ⟨⟨⟨#[]⟩, rfl, rfl⟩, unhide HB2⟩
  | true =>
    obtain ⟨t, c, hkk, hct⟩ := fam_root hP hf
    have e : txtO os = (inL os false (os.length + 1) t, 0) := by unfold txtO; rw [hf, hkk]; rfl
    rw [e]
    rw [hf] at HIN
    have hft : n0.first = (t : Int) := by
      rw [hfirst]
      unfold kidsAt at hkk
      rw [ho0] at hkk
      dsimp only at hkk
      rw [hkk]
      rfl
    have HII := hide (fun W (hW : Below w.heap.size w W) => inner_in (h.below hW) hs hct false (by have := hc t c hct; omega))
    clear h hs hE hP hg hc ho0 hn0 hsame0 hfirst e hf hkk hct
    go_enter Tryz.func5, Tryz.ntmps5
    go_wp2_with (first
      | (go_at_call 20; refine (unhide HN).mono ?_; rintro e w1 ⟨ao, cp, rfl, _, hb, _⟩; have hq := World.alloc_heap_new w1 (nodeB n0 ao cp); have HQ := hide hq; have hb1 := hb.alloc hb.size (nodeB n0 ao cp); have HB1 := hide hb1; unfold nodeB at HB1 HQ; rw [hft] at HB1 HQ; clear hb hq hb1; unfold nodeV NodeM.cells)
      | (go_at_call 7; refine ((unhide HIN) _ (unhide HB1)).mono ?_; rintro e w2 ⟨rfl, hb⟩; have q7 := cell_row _ _ 7 _ _ _ ((hb.block w1.heap.size (by simp)).trans (unhide HQ)); have HB2 := hide ((unhide HB1).trans (hb.mono (unhide HB1).size)); clear hb)
      | (go_at_call 21; refine ((unhide HII) _ (unhide HB2)).mono ?_; rintro e w3 ⟨rfl, hb⟩; have HB3 := hide ((unhide HB2).trans (hb.mono (unhide HB2).size)); clear hb))
    go_ret2
    exact ⟨⟨_, rfl, by simp⟩, unhide HB3⟩
end Go.Proofs.YtmnmaenmoaehlaaGreatDoor

namespace Go.Proofs.YtmnmaenmoaehlaaGreatDoor
open Go.ChangeShapes Go.WideShapes Go.ChangeAt Go.RowKit

structure ElM where
  what : Int
  up : Int
  text : ByteArray
  la : Option Addr
  cap : Nat
  l : List AttrM
def ElM.cells (o : ElM) : List Value := [.int .i64 o.what, .int .i64 o.up, .string o.text, .slice o.la o.l.length o.cap]
structure ElsIn (w : World) (a : Option Addr) (l : List ElM) : Prop where
  cells : ∀ (i : Nat) o, l[i]? = some o → ∃ b off, a = some ⟨b, off, none⟩ ∧ w.cell? ⟨b, off + i * 4, none⟩ = some (.int .i64 o.what) ∧ w.cell? ⟨b, off + i * 4 + 1, none⟩ = some (.int .i64 o.up) ∧ w.cell? ⟨b, off + i * 4 + 2, none⟩ = some (.string o.text) ∧ w.cell? ⟨b, off + i * 4 + 3, none⟩ = some (.slice o.la o.l.length o.cap)
  attrs : ∀ (i : Nat) o, l[i]? = some o → AttrsIn w o.la o.l ∧ o.l.length * 56 ≤ 140737488351232
theorem ElsIn.below {w w1 : World} {a : Option Addr} {l : List ElM} (h : ElsIn w a l) (hb : Below w.heap.size w w1) : ElsIn w1 a l := by
  refine ⟨fun i o hi => ?_, fun i o hi => ⟨((h.attrs i o hi).1).below hb, (h.attrs i o hi).2⟩⟩
  obtain ⟨b, off, e, c0, c1, c2, c3⟩ := h.cells i o hi
  have hlt : b < w.heap.size := World.block_lt_of_cell? w _ c0
  exact ⟨b, off, e, (hb.cell (p := ⟨b, off + i * 4, none⟩) hlt).trans c0, (hb.cell (p := ⟨b, off + i * 4 + 1, none⟩) hlt).trans c1, (hb.cell (p := ⟨b, off + i * 4 + 2, none⟩) hlt).trans c2, (hb.cell (p := ⟨b, off + i * 4 + 3, none⟩) hlt).trans c3⟩
theorem laidOut : laidOutB Tryz.prog = true := by kernel_rfl

theorem list4 {α : Type} (l : List α) (h : l.length = 4) : ∃ a b c d, l = [a, b, c, d] := by
  match l, h with
  | [a, b, c, d], _ => exact ⟨a, b, c, d, rfl⟩

theorem weightsAll_mem {H : Type} {P : Program} {e : TypeId} : ∀ {l : List (DataW H)} {d : DataW H}, d ∈ l → ∀ n ∈ d.weights P e, n ∈ DataW.weightsAll P e l
  | d0 :: l, d, hd, n, hn => by
    simp only [DataW.weightsAll, List.mem_append]
    rcases List.mem_cons.1 hd with rfl | hd
    · exact .inl hn
    · exact .inr (weightsAll_mem hd n hn)

section
variable {H : Type} {enc : TypeId × Value → H} {W : World} {spare : Nat → Bool} {held : Bool}

theorem addr_plain {x : Addr} {v : Value} (h : W.cell? (x.add 0) = some v) : ∃ b off, x = ⟨b, off, none⟩ := by
  obtain ⟨b, off, spot⟩ := x
  have hspot : spot = none := by simpa [Addr.add] using World.cell?_spot h
  exact ⟨b, off, by rw [hspot]⟩

theorem cells_get {x : Addr} {n : Nat} {cs : List Value} (h : W.cells? 0 x n = some cs) (j : Nat) (v : Value) (hj : cs[j]? = some v) : W.cell? (x.add j) = some v := by
  obtain ⟨_, hlen, hc⟩ := World.cells?_some h
  have hlt : j < cs.length := (List.getElem?_eq_some_iff.1 hj).1
  simp only [World.cells?, Nat.zero_le, if_true] at h
  have hjn : j < n := by omega
  have := mapM_some_get h j j (by simp [hjn])
  rw [this, hj]

/-- An attribute's four cells. -/
theorem attr_cells {fuel : Nat} {cs : List Value} {x : DataW H × List MemPlace} (h : DataW.trod enc Tryz.prog W 0 spare held fuel 93 cs = some x) :
    ∃ z : AttrM, cs = [.int .i64 z.space, .string z.pre, .string z.name, .string z.val] := by
  have hc4 : Tryz.prog.cellsOf 93 = 4 := by kernel_rfl
  have hc3 : Tryz.prog.cellsOf 3 = 1 := by kernel_rfl
  have hc9 : Tryz.prog.cellsOf 9 = 1 := by kernel_rfl
  obtain ⟨xs, k, _, _, hl4, hxl, hfs⟩ := DataW.trod_struct Tryz.underlying93 h
  rw [hc4] at hl4
  obtain ⟨e0, e1, e2, e3, rfl⟩ := list4 cs hl4
  have f0 := hfs 0 _ rfl
  have f1 := hfs 1 _ rfl
  have f2 := hfs 2 _ rfl
  have f3 := hfs 3 _ rfl
  have hx : xs.length = 4 := by simpa using hxl
  obtain ⟨y0, y1, y2, y3, rfl⟩ := list4 xs hx
  simp [hc3, hc9] at f0 f1 f2 f3
  obtain ⟨z0, g0, _, _⟩ := DataW.trod_int Tryz.underlying3 f0
  obtain ⟨z1, g1, _, _⟩ := DataW.trod_string Tryz.underlying9 f1
  obtain ⟨z2, g2, _, _⟩ := DataW.trod_string Tryz.underlying9 f2
  obtain ⟨z3, g3, _, _⟩ := DataW.trod_string Tryz.underlying9 f3
  simp at g0 g1 g2 g3
  subst g0 g1 g2 g3
  exact ⟨⟨z0, z1, z2, z3⟩, rfl⟩

/-- A slice of attributes that came in. -/
theorem attrs_cells {fuel : Nat} {cs : List Value} {x : DataW H × List MemPlace} (h : DataW.trod enc Tryz.prog W 0 spare held fuel 22 cs = some x) :
    ∃ (a : Option Addr) (cap : Nat) (l : List AttrM), cs = [.slice a l.length cap] ∧ AttrsIn W a l ∧ ((x.1.weights Tryz.prog 22).all (· ≤ reachBytes) = true → l.length * 56 ≤ 140737488351232) := by
  rcases Go.Deep.open_slice Tryz.underlying22 h with ⟨rfl, _⟩ | ⟨x, len, cap, m, n, D, Pl, rfl, _, hlc, hcm, hm, rfl, hel⟩
  · exact ⟨none, 0, [], rfl, ⟨fun i x hi => by simp at hi⟩, fun _ => by simp⟩
  · have hc4 : Tryz.prog.cellsOf 93 = 4 := by kernel_rfl
    have hb56 : Tryz.prog.bytesOf 93 = 56 := by kernel_rfl
    have hlm : len ≤ m := by rw [hm]; split <;> omega
    have one : ∀ i, i < len → ∃ z : AttrM, ∃ b off, x = ⟨b, off, none⟩ ∧ W.cell? ⟨b, off + i * 4, none⟩ = some (.int .i64 z.space) ∧ W.cell? ⟨b, off + i * 4 + 1, none⟩ = some (.string z.pre) ∧
        W.cell? ⟨b, off + i * 4 + 2, none⟩ = some (.string z.name) ∧ W.cell? ⟨b, off + i * 4 + 3, none⟩ = some (.string z.val) := by
      intro i hi
      obtain ⟨cs', hcs', htr⟩ := hel i (by omega)
      rw [hc4] at hcs'
      obtain ⟨z, rfl⟩ := attr_cells htr
      have c0 := cells_get hcs' 0 _ rfl
      have c1 := cells_get hcs' 1 _ rfl
      have c2 := cells_get hcs' 2 _ rfl
      have c3 := cells_get hcs' 3 _ rfl
      rw [Go.Deep.add_add] at c0 c1 c2 c3
      obtain ⟨i0, hi0⟩ : ∃ i0 : Nat, i0 = 0 := ⟨0, rfl⟩
      obtain ⟨cs0, hcs0, htr0⟩ := hel i0 (by omega)
      rw [hc4] at hcs0
      obtain ⟨z', rfl⟩ := attr_cells htr0
      have p0 := cells_get hcs0 0 _ rfl
      rw [Go.Deep.add_add, show i0 * 4 + 0 = 0 by omega] at p0
      obtain ⟨b, off, rfl⟩ := addr_plain p0
      have ad : ∀ k, (⟨b, off, none⟩ : Addr).add k = ⟨b, off + k, none⟩ := fun k => by unfold Addr.add; split <;> simp_all
      rw [ad] at c0 c1 c2 c3
      exact ⟨z, b, off, rfl, c0, c1, c2, c3⟩
    obtain ⟨f, hf'⟩ : ∃ f : Nat → AttrM, ∀ i, i < len → ∃ b off, x = ⟨b, off, none⟩ ∧ W.cell? ⟨b, off + i * 4, none⟩ = some (.int .i64 (f i).space) ∧ W.cell? ⟨b, off + i * 4 + 1, none⟩ = some (.string (f i).pre) ∧
        W.cell? ⟨b, off + i * 4 + 2, none⟩ = some (.string (f i).name) ∧ W.cell? ⟨b, off + i * 4 + 3, none⟩ = some (.string (f i).val) := by
      have : Inhabited AttrM := ⟨⟨0, ⟨#[]⟩, ⟨#[]⟩, ⟨#[]⟩⟩⟩
      exact Go.Deep.choose_lt one
    refine ⟨some x, cap, (List.range len).map f, by simp, ⟨fun i y hi => ?_⟩, fun hw => ?_⟩
    · have hlt : i < len := by have := (List.getElem?_eq_some_iff.1 hi).1; simpa using this
      have hy : f i = y := by simpa [hlt] using hi
      obtain ⟨b, off, e, c0, c1, c2, c3⟩ := hf' i hlt
      subst hy
      exact ⟨b, off, by rw [e], c0, c1, c2, c3⟩
    · have := List.all_eq_true.1 hw (((List.range len).map D).length * 56 + ((List.range (m - len)).map fun j => D (len + j)).length * 56) (by simp [DataW.weights, Tryz.underlying22, hb56, Nat.add_mul])
      simp [reachBytes] at this
      simp
      omega

theorem el_cells {fuel : Nat} {cs : List Value} {x : DataW H × List MemPlace} (h : DataW.trod enc Tryz.prog W 0 spare held fuel 47 cs = some x) :
    ∃ o : ElM, cs = o.cells ∧ AttrsIn W o.la o.l ∧ ((x.1.weights Tryz.prog 47).all (· ≤ reachBytes) = true → o.l.length * 56 ≤ 140737488351232) := by
  have hcE : Tryz.prog.cellsOf 47 = 4 := by kernel_rfl
  have hcA : Tryz.prog.cellsOf 22 = 1 := by kernel_rfl
  have hc3 : Tryz.prog.cellsOf 3 = 1 := by kernel_rfl
  have hc9 : Tryz.prog.cellsOf 9 = 1 := by kernel_rfl
  obtain ⟨xs, k, _, rfl, hl4, hxl, hfs⟩ := DataW.trod_struct Tryz.underlying47 h
  rw [hcE] at hl4
  obtain ⟨e0, e1, e2, e3, rfl⟩ := list4 cs hl4
  have hx : xs.length = 4 := by simpa using hxl
  obtain ⟨y0, y1, y2, y3, rfl⟩ := list4 xs hx
  have f0 := hfs 0 _ rfl
  have f1 := hfs 1 _ rfl
  have f2 := hfs 2 _ rfl
  have f3 := hfs 3 _ rfl
  simp [hc3, hc9, hcA] at f0 f1 f2 f3
  obtain ⟨z0, g0, _, _⟩ := DataW.trod_int Tryz.underlying3 f0
  obtain ⟨z1, g1, _, _⟩ := DataW.trod_int Tryz.underlying3 f1
  obtain ⟨z2, g2, _, _⟩ := DataW.trod_string Tryz.underlying9 f2
  obtain ⟨la, cap, l, g3, hin, hw⟩ := attrs_cells f3
  simp at g0 g1 g2 g3
  subst g0 g1 g2 g3
  refine ⟨⟨z0, z1, z2, la, cap, l⟩, rfl, hin, fun hall => hw (List.all_eq_true.2 fun n hn => List.all_eq_true.1 hall n ?_)⟩
  simp only [DataW.weights, Tryz.underlying47]
  exact DataW.weights_mem_each (j := 3) (t := 22) (d := y3.1) rfl rfl n hn

theorem elems_open {a : Option Addr} {len cap : Nat} {d : DataW H} {ps : List MemPlace}
    (h : DataW.Trod enc Tryz.prog W 0 spare held 23 (.slice a len cap) d ps) (hsz : (d.weights Tryz.prog 23).all (· ≤ reachBytes) = true) : ∃ l : List ElM, len = l.length ∧ ElsIn W a l ∧ l.length ≤ maxLen := by
  obtain ⟨fuel, hf⟩ := h
  rcases Go.Deep.open_slice Tryz.underlying23 hf with ⟨hcs, _⟩ | ⟨x, l, c, m, n, D, Pl, hcs, _, hlc, hcm, hm, hx, hel⟩
  · simp [Value.cells] at hcs
    obtain ⟨rfl, rfl, rfl⟩ := hcs
    exact ⟨[], rfl, ⟨fun i x hi => by simp at hi, fun i x hi => by simp at hi⟩, by simp⟩
  · simp [Value.cells] at hcs
    obtain ⟨rfl, rfl, rfl⟩ := hcs
    simp only [Prod.mk.injEq] at hx
    obtain ⟨rfl, _⟩ := hx
    have hc5 : Tryz.prog.cellsOf 47 = 4 := by kernel_rfl
    have hlm : len ≤ m := by rw [hm]; split <;> omega
    have one : ∀ i, i < len → ∃ o : ElM, (∃ b off, x = ⟨b, off, none⟩ ∧ ∀ (j : Nat) v, o.cells[j]? = some v → W.cell? ⟨b, off + i * 4 + j, none⟩ = some v) ∧ AttrsIn W o.la o.l ∧ o.l.length * 56 ≤ 140737488351232 := by
      intro i hi
      obtain ⟨cs', hcs', htr⟩ := hel i (by omega)
      rw [hc5] at hcs'
      obtain ⟨o, rfl, hin, hw⟩ := el_cells htr
      refine ⟨o, ?_, hin, hw (List.all_eq_true.2 fun n hn => List.all_eq_true.1 hsz n ?_)⟩
      · obtain ⟨i0, hi0⟩ : ∃ i0 : Nat, i0 = 0 := ⟨0, rfl⟩
        obtain ⟨cs0, hcs0, htr0⟩ := hel i0 (by omega)
        rw [hc5] at hcs0
        obtain ⟨o', rfl, _, _⟩ := el_cells htr0
        have p0 := cells_get hcs0 0 _ rfl
        rw [Go.Deep.add_add, show i0 * 4 + 0 = 0 by omega] at p0
        obtain ⟨b, off, rfl⟩ := addr_plain p0
        have ad : ∀ k, (⟨b, off, none⟩ : Addr).add k = ⟨b, off + k, none⟩ := fun k => by unfold Addr.add; split <;> simp_all
        refine ⟨b, off, rfl, fun j v hj => ?_⟩
        have := cells_get hcs' j v hj
        rw [Go.Deep.add_add, ad] at this
        rw [Nat.add_assoc]
        exact this
      · simp only [DataW.weights, Tryz.underlying23, List.mem_cons, List.mem_append]
        exact .inr (.inl (weightsAll_mem (List.mem_map.2 ⟨i, List.mem_range.2 hi, rfl⟩) n hn))
    obtain ⟨f, hf'⟩ : ∃ f : Nat → ElM, ∀ i, i < len → (∃ b off, x = ⟨b, off, none⟩ ∧ ∀ (j : Nat) v, (f i).cells[j]? = some v → W.cell? ⟨b, off + i * 4 + j, none⟩ = some v) ∧ AttrsIn W (f i).la (f i).l ∧ (f i).l.length * 56 ≤ 140737488351232 := by
      have : Inhabited ElM := ⟨⟨0, 0, ⟨#[]⟩, none, 0, []⟩⟩
      exact Go.Deep.choose_lt one
    have get : ∀ (i : Nat) y, ((List.range len).map f)[i]? = some y → i < len ∧ f i = y := by
      intro i y hi
      have hlt : i < len := by have := (List.getElem?_eq_some_iff.1 hi).1; simpa using this
      exact ⟨hlt, by simpa [hlt] using hi⟩
    refine ⟨(List.range len).map f, by simp, ⟨fun i y hi => ?_, fun i y hi => ?_⟩, by simp; omega⟩
    · obtain ⟨hlt, rfl⟩ := get i y hi
      obtain ⟨⟨b, off, rfl, hc⟩, _, _⟩ := hf' i hlt
      exact ⟨b, off, rfl, hc 0 _ rfl, hc 1 _ rfl, hc 2 _ rfl, hc 3 _ rfl⟩
    · obtain ⟨hlt, rfl⟩ := get i y hi
      exact (hf' i hlt).2
end
end Go.Proofs.YtmnmaenmoaehlaaGreatDoor
