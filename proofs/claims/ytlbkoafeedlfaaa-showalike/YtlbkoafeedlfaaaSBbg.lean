/-
  A stack of spots of package show: pushed, asked, popped. A line of package show: how deep it stands, its parts; its size, and the first writer of lines, which only counts. strings.Builder's Grow and String at this program's numbers: the library's own theorems, applied; WriteString.
-/
import Derived.Test.YtlbkoafeedlfaaaSBbc
import Derived.Deep.LoopGhost
import Derived.Lib.OthersKept
import Derived.Shelf.Strings.Builder1
import Derived.Shelf.Strings.Builder2
import Derived.Shelf.Strings.BuilderF
import Derived.Lib.UnsafeStr
import Derived.Lib.Builder
namespace Go.Proofs.Ytlbkoafeedlfaaa
open Go.RowKit

theorem Try.info152 : (Try.prog.info? 152).map (fun i => (i.zero, i.size, i.bytes)) = some (some (.agg #[.int .i64 0, .int .i64 0]), 2, 16) := by kernel_rfl

set_option maxHeartbeats 1000000 in
theorem push_spot {w : World} {base b n : Nat} {xs : List Value} {F : Nat → Prop} (h : StS w base b 149 152 2 n xs F) (x y : Int) (hn : n ≤ 100000) :
    Calls Try.prog 113 #[.pointer (some ⟨b, 0, none⟩), .agg #[.int .i64 x, .int .i64 y]] w fun e w' => e = .returned (.tuple #[]) ∧ UpdSt F w w' base b 149 152 2 (n + 1) (xs ++ [.int .i64 x, .int .i64 y]) := by
  obtain ⟨v, h, hF⟩ := h
  obtain ⟨ga, cap, rfl, _⟩ := h.cut n (Nat.le_refl _)
  obtain ⟨i0, hi0, hz0, hz1, hz2⟩ := info_parts Try.info152
  have hc := h.cell
  have hfz := h.free
  have hlt := h.lt
  have hfar := h.far
  have HH := hide h
  have HFF := hide hF
  have HLO := hide h.lo
  have HR := hide h.row
  clear h hF
  go_enter Try.func113, Try.ntmps113
  go_wp2_with fail
  go_region_law ((refine step_append_lies _ (by rfl) _ _ _ (by rfl) base 152 i0 _ 2 16 Try.underlying147 hi0 hz0 hz1 hz2 rfl (by omega) (.slice ga n cap) n xs (by rfl) (by exact (((unhide HR).alloc _).drew).alloc _) ⟨w.heap.size + 1, 0, none⟩ 1 1 [.int .i64 x, .int .i64 y] (by rfl) (by rfl) (by have := two_news (w.alloc (.cells #[.int .i64 x, .int .i64 y] 152)) 152 (.int .i64 x) (.int .i64 y); rw [World.size_alloc] at this; exact this) (by simp [Value.oneCell']) (by omega) (by unfold maxLen; omega) (by omega) (by exact Nat.le_trans (unhide HLO) (by simp; omega)) (w.heap.size + 2) (by simp) ?_; intro g' cap' w1 hown1 hgrow hat hl1; have hc1 : w1.cell? ⟨b, 0, none⟩ = some (.slice ga n cap) := ((hgrow.cell_far ⟨b, 0, none⟩ (by simp; omega) (by intro e; first | exact hfar e | exact hfar e.symm)).trans (((Below.refl w.heap.size w).alloc (Nat.le_refl _) _).alloc (by simp) _ |>.drew.cell hlt |>.trans hc)); have hF1 : w1.frozen? ⟨b, 0, none⟩ = false := ((hgrow.frozen_far ⟨b, 0, none⟩ (by simp; omega) (by intro e; first | exact hfar e | exact hfar e.symm)).trans (((Below.refl w.heap.size w).alloc (Nat.le_refl _) _).alloc (by simp) _ |>.drew.frozen hlt |>.trans hfz))))
  all_goals
    have hB : Below w.heap.size w (((w.alloc (.cells #[.int .i64 x, .int .i64 y] 152)).alloc (.cells #[.int .i64 x, .int .i64 y] 152)).drew) := (((Below.refl w.heap.size w).alloc (Nat.le_refl _) _).alloc (by simp) _).drew
    have hh := (unhide HH).mod (Mod.of_below (F := fun _ => False) hB) (fun _ _ e => e)
    have R := hh.close (H := w.heap.size + 2) hgrow hown1 hat (by simp) (unhide HFF)
    obtain ⟨F', h1, h2, h3⟩ := R
    have R2 : UpdSt F w (w1.setCell ⟨b, 0, none⟩ (.slice (some ⟨g', 0, none⟩) (n + 1) cap')) base b 149 152 2 (n + 1) (xs ++ [.int .i64 x, .int .i64 y]) := ⟨F', h1, (Mod.of_below hB).trans h2, fun k hk => (h3 k hk).imp id (fun h => Nat.le_trans hB.size h)⟩
    go_end0
    exact ⟨rfl, R2⟩

theorem empty_spot {w : World} {base b n : Nat} {xs : List Value} {F : Nat → Prop} (h : StS w base b 149 152 2 n xs F) :
    Calls Try.prog 114 #[.pointer (some ⟨b, 0, none⟩)] w fun e w' => e = .returned (.bool (decide (n = 0))) ∧ w = w' := by
  obtain ⟨v, h, hF⟩ := h
  obtain ⟨ga, cap, rfl, _⟩ := h.cut n (Nat.le_refl _)
  have hc := h.cell
  clear h hF
  go_enter Try.func114, Try.ntmps114
  go_wp2
  go_ret
  have e : (((n : Nat) : Int) == 0) = decide (n = 0) := by rw [Bool.eq_iff_iff]; simp
  exact ⟨by simp [e], rfl⟩

set_option maxHeartbeats 1000000 in
theorem pop_spot {w : World} {base b n : Nat} {xs : List Value} {F : Nat → Prop} {x y : Int} (h : StS w base b 149 152 2 (n + 1) (xs ++ [.int .i64 x, .int .i64 y]) F) (hn : n ≤ 100000) :
    Calls Try.prog 115 #[.pointer (some ⟨b, 0, none⟩)] w fun e w' => e = .returned (.agg #[.int .i64 x, .int .i64 y]) ∧ UpdSt F w w' base b 149 152 2 n xs := by
  obtain ⟨v, h, hF⟩ := h
  obtain ⟨g, cap, rfl, hcap, hg, hj⟩ := h.at (by omega)
  have hlx : xs.length = n * 2 := by have := h.row.1; simp at this; omega
  have c0 : w.cell? ⟨g, n * 2, none⟩ = some (.int .i64 x) := by rw [hj _ (by omega), List.getElem?_append_right (by omega), hlx]; simp
  have c1 : w.cell? ⟨g, n * 2 + 1, none⟩ = some (.int .i64 y) := by rw [hj _ (by omega), List.getElem?_append_right (by omega), hlx]; simp
  have hc := h.cell
  have hfz := h.free
  have hlt := h.lt
  have HX := hide hlx
  have HH := hide h
  have HFF := hide hF
  clear h hF hj hlx
  go_enter Try.func115, Try.ntmps115
  go_wp2
  refine bodyPost_ret (v := .agg #[.int .i64 x, .int .i64 y]) (by simp [results, Try.results115, go_sem]) rfl ⟨rfl, ?_⟩
  have R := (unhide HH).short (unhide HFF) n (by omega) (Below.refl _ w)
  rw [List.take_left' (unhide HX)] at R
  exact (R.then ((Below.refl _ _).alloc (Nat.le_refl _) _)).then ((Below.refl _ _).alloc (Nat.le_refl _) _)

end Go.Proofs.Ytlbkoafeedlfaaa

namespace Go.Proofs.Ytlbkoafeedlfaaa
open Go.RowKit

/-- Every block but those of S, and but rows of bytes, stands as it stood. -/
structure Kept (S : Nat → Prop) (B : Nat) (w w' : World) : Prop where
  below : Below B w w'
  size : w.heap.size ≤ w'.heap.size
  block : ∀ (k : Nat) (o : Obj), w.heap[k]? = some o → ¬ S k → (∀ c fz, o ≠ .cells c 5 fz) → w'.heap[k]? = some o

section
variable {S : Nat → Prop} {B : Nat} {w w1 w2 w' : World}
theorem Kept.refl (S : Nat → Prop) (B : Nat) (w : World) : Kept S B w w := ⟨Below.refl _ _, Nat.le_refl _, fun _ _ h _ _ => h⟩
theorem Kept.trans (h : Kept S B w w1) (k : Kept S B w1 w2) : Kept S B w w2 :=
  ⟨h.below.trans k.below, Nat.le_trans h.size k.size, fun i o hi hs ho => k.block i o (h.block i o hi hs ho) hs ho⟩
theorem Kept.of_below (hb : Below w.heap.size w w') (hB : B ≤ w.heap.size) : Kept S B w w' :=
  ⟨hb.mono hB, hb.size, fun k _ hk _ _ => (hb.block k (lt_of_block hk)).trans hk⟩
theorem Kept.cell (h : Kept S B w w') {b : Nat} {cs : Array Value} {t : TypeId} {fr : Nat × Nat} (hb : w.heap[b]? = some (.cells cs t fr)) (hs : ¬ S b) (ht : t ≠ 5) : w'.heap[b]? = some (.cells cs t fr) :=
  h.block b _ hb hs (fun c fz e => by injection e with _ e2; exact ht e2)
theorem StS.kept {base b : Nat} {T E : TypeId} {sz n : Nat} {xs : List Value} {F : Nat → Prop} (h : StS w base b T E sz n xs F) (hk : Kept S B w w') (hT : T ≠ 5) (hE : E ≠ 5) (hS : ∀ k, F k → ¬ S k) : StS w' base b T E sz n xs F := by
  obtain ⟨v, h, hF⟩ := h
  refine ⟨v, ⟨hk.cell h.box (hS b ((hF b).2 (.inl rfl))) hT, ⟨h.row.1, ?_⟩, h.lo, h.ne⟩, hF⟩
  rcases h.row.2 with hn | ⟨g', cap', cur, rfl, hbb, hgg, rest⟩
  · exact .inl hn
  · exact .inr ⟨g', cap', cur, rfl, hbb, hk.cell hgg (hS g' ((hF g').2 (.inr rfl))) hE, rest⟩
theorem StS.kinds {base b : Nat} {T E : TypeId} {sz n : Nat} {xs : List Value} {F : Nat → Prop} (h : StS w base b T E sz n xs F) (hT : T ≠ 5) (hE : E ≠ 5) {k : Nat} (hk : F k) : ∀ c fz, w.heap[k]? ≠ some (.cells c 5 fz) := by
  obtain ⟨v, h, hF⟩ := h
  intro c fz e
  rcases (hF k).1 hk with rfl | hv
  · rw [h.box] at e; injection e with e; injection e with _ e2; exact hT e2
  · obtain ⟨cur, hc⟩ := ownsRow_block h.row hv
    rw [hc] at e; injection e with e; injection e with _ e2; exact hE e2
end

def sizesP (ps : List ByteArray) : Nat := (ps.map ByteArray.size).sum
def lineZ (d : Nat) (ps : List ByteArray) : Nat := 3 + 2 * d + sizesP ps
theorem sizesP_take (ps : List ByteArray) {i : Nat} {p : ByteArray} (h : ps[i]? = some p) : sizesP (ps.take (i + 1)) = sizesP (ps.take i) + p.size := by
  unfold sizesP
  rw [List.take_add_one, h]
  simp
theorem sizesP_le (ps : List ByteArray) (i : Nat) : sizesP (ps.take i) ≤ sizesP ps := by
  have h : sizesP ps = sizesP (ps.take i) + sizesP (ps.drop i) := by unfold sizesP; rw [← List.sum_append_nat, ← List.map_append, List.take_append_drop]
  omega

/-- The parts of a line in memory. -/
def PartsAt (w : World) (pb : Nat) (ps : List ByteArray) : Prop := w.heap[pb]? = some (.cells (ps.map Value.string).toArray 9 (0, 0))
theorem PartsAt.cell {w : World} {pb : Nat} {ps : List ByteArray} (h : PartsAt w pb ps) {i : Nat} {p : ByteArray} (hi : ps[i]? = some p) : w.cell? ⟨pb, i, none⟩ = some (.string p) := by
  unfold PartsAt at h
  simp [World.cell?, h, hi]

set_option maxHeartbeats 1000000 in
theorem lineSize_at {w : World} {pb : Nat} {ps : List ByteArray} (h : PartsAt w pb ps) (c d : Nat) (hd : d ≤ 100000) (hn : ps.length ≤ 10) (hz : sizesP ps ≤ 100000000) :
    Calls Try.prog 75 #[.int .i64 d, .slice (some ⟨pb, 0, none⟩) ps.length c] w fun e w' => e = .returned (.int .i64 (lineZ d ps : Int)) ∧ w' = w := by
  have hdz : (d : Int) ≤ 100000 := by omega
  have HP := hide h
  have HZ := hide hz
  obtain ⟨r, hr⟩ : ∃ r, lineZ d ps = r := ⟨_, rfl⟩
  have HRR := hide hr
  rw [hr]
  clear hr
  obtain ⟨n, hpn⟩ : ∃ n, ps.length = n := ⟨_, rfl⟩
  rw [hpn]
  have hnz : (n : Int) ≤ 10 := by omega
  have HPN := hide hpn
  clear h hd hn hz hpn
  go_enter Try.func75, Try.ntmps75
  go_wp2
  go_loopg [5, 14] n (fun gk s5 s14 wx => ∃ i : Nat, i + gk = n ∧ s14 = .int .i64 i ∧ wx = w ∧ s5 = .int .i64 (2 * (d : Int) + 3 + (sizesP (ps.take i) : Int)))
  case atStart => exact ⟨0, by omega, rfl, rfl, by simp [sizesP]; omega⟩
  case round =>
    obtain ⟨i, hik, rfl, rfl, rfl⟩ := hrel
    by_cases hi : i < n
    · have hiz : (i : Int) < (n : Int) := by omega
      obtain ⟨p, hp⟩ : ∃ p, ps[i]? = some p := ⟨_, List.getElem?_eq_getElem (by have := unhide HPN; omega)⟩
      have hc := (unhide HP).cell hp
      have ht := sizesP_take ps hp
      have hle := sizesP_le ps (i + 1)
      have hzz := unhide HZ
      obtain ⟨q, hq⟩ : ∃ q, sizesP (ps.take i) = q := ⟨_, rfl⟩
      have HT := hide ht
      have HQ := hide hq
      have qz : (q : Int) ≤ 100000000 := by omega
      have pz : (p.size : Int) ≤ 100000000 := by omega
      rw [hq]
      clear ht hle hq hp hzz
      go_wp2
      go_roundg (gk - 1)
      case measure => omega
      case rel => exact ⟨i + 1, by omega, by go_num, rfl, by rw [unhide HT, unhide HQ]; congr 1; omega⟩
    · have hiz : ¬ (i : Int) < (n : Int) := by omega
      have HE : Hid (2 * (d : Int) + 3 + (sizesP (ps.take i) : Int) = (lineZ d ps : Int)) := hide (by
        rw [List.take_of_length_le (by have := unhide HPN; omega)]; unfold lineZ; omega)
      rw [unhide HE, unhide HRR]
      go_wp2
      go_ret
      exact ⟨rfl, rfl⟩

/-- The counter of the first round. -/
def SizeAt (sb : Nat) (a : Nat) (w : World) : Prop := w.heap[sb]? = some (.cells #[.int .i64 (a : Int)] 3 (0, 0))

set_option maxHeartbeats 1000000 in
theorem count_line {w : World} {pb sb a B : Nat} {ps : List ByteArray} (hs : SizeAt sb a w) (hp : PartsAt w pb ps) (c d : Nat) (hd : d ≤ 100000) (hn : ps.length ≤ 10) (hz : sizesP ps ≤ 100000000) (ha : a ≤ 100000000000000) (hB : B ≤ sb) :
    Calls Try.prog 74 #[.int .i64 d, .slice (some ⟨pb, 0, none⟩) ps.length c, .pointer (some ⟨sb, 0, none⟩)] w fun e w' => e = .returned (.tuple #[]) ∧ SizeAt sb (a + lineZ d ps) w' ∧ Kept (fun k => k = sb) B w w' := by
  have c0 : w.cell? ⟨sb, 0, none⟩ = some (.int .i64 (a : Int)) := by unfold SizeAt at hs; simp [World.cell?, hs]
  have f0 : w.frozen? ⟨sb, 0, none⟩ = false := by unfold SizeAt at hs; simp [World.frozen?, hs]
  have HL := hide (fun n => lineSize_at (w := w.drewN n) (pb := pb) (by exact hp) c d hd hn hz)
  have HS := hide hs
  have hlz : lineZ d ps ≤ 200000000 := by unfold lineZ; omega
  generalize lineZ d ps = z at *
  have haz : (a : Int) ≤ 100000000000000 := by omega
  have hzz : (z : Int) ≤ 200000000 := by omega
  have hwr : IntKind.i64.wrap ((a : Int) + (z : Int)) = (a : Int) + (z : Int) := by rw [IntKind.wrap_i64]; omega
  have HR : Hid (∀ n, SizeAt sb (a + z) ((w.drewN n).setCell ⟨sb, 0, none⟩ (.int .i64 ((a : Int) + (z : Int)))) ∧ Kept (fun k => k = sb) B w ((w.drewN n).setCell ⟨sb, 0, none⟩ (.int .i64 ((a : Int) + (z : Int))))) := hide (fun n => by
    have hs' : (w.drewN n).heap[sb]? = some (.cells #[.int .i64 (a : Int)] 3 (0, 0)) := hs
    constructor
    · have := heap_setCell_same (w.drewN n) sb 0 #[.int .i64 (a : Int)] 3 (.int .i64 ((a : Int) + (z : Int))) hs'
      unfold SizeAt
      rw [this]
      simp
    · refine ⟨?_, by simp, fun k o hk hne _ => ?_⟩
      · exact (Below.trans (Below.refl B w) (⟨rfl, rfl, rfl, Nat.le_refl _, fun _ _ => rfl⟩ : Below B w (w.drewN n))).setCell (p := ⟨sb, 0, none⟩) hB _
      · rw [Below.heap_setCell _ _ _ _ (fun e => hne e)]
        exact hk)
  generalize ps.length = pn at *
  clear hs hp hd ha hz hn
  go_enter Try.func74, Try.ntmps74
  go_wp2_with fail
  go_region_with (go_at_call 75; refine (unhide HL _).mono ?_; rintro e w1 ⟨rfl, rfl⟩)
  all_goals (
    go_end0
    exact ⟨rfl, unhide HR 1⟩)
end Go.Proofs.Ytlbkoafeedlfaaa

namespace Go.Proofs
open Go.Shelf Go.RowKit
def Try.lays169_ren : Go.Shelf.Ren := ⟨fun | 169 => 78 | n => n, fun | 70 => 115 | 9 => 9 | 0 => 0 | 72 => 117 | 37 => 46 | 127 => 159 | 3 => 3 | 5 => 5 | n => n, fun | n => n⟩
theorem Try.lays169 : Go.Proofs.Lays.n169 Try.prog Try.lays169_ren := {
  mixed := by kernel_rfl
  f169 := Try.func78.trans (congrArg some (by kernel_rfl))
  t0 := Try.underlying0
  a0 := Try.isAgg0
  z0 := Try.sizeOf0
  v0 := Try.zeroValue0
  t3 := Try.underlying3
  a3 := Try.isAgg3
  z3 := Try.sizeOf3
  v3 := Try.zeroValue3
  t9 := Try.underlying9
  a9 := Try.isAgg9
  z9 := Try.sizeOf9
  v9 := Try.zeroValue9
  t37 := Try.underlying46
  a37 := Try.isAgg46
  z37 := Try.sizeOf46
  v37 := Try.zeroValue46
  t70 := Try.underlying115
  a70 := Try.isAgg115
  z70 := Try.sizeOf115
  v70 := Try.zeroValue115
  t72 := Try.underlying117
  a72 := Try.isAgg117
  z72 := Try.sizeOf117
  v72 := Try.zeroValue117
  t127 := Try.underlying159
  a127 := Try.isAgg159
  z127 := Try.sizeOf159
  v127 := Try.zeroValue159 }
theorem Try.Builder_Extra_169 : Builder.Extra Try.prog Try.lays169_ren := {
  sizeBuilder := by kernel_rfl
  liesBuilder := by kernel_rfl
  t5 := Try.underlying5
  a5 := Try.isAgg5
  z5 := Try.sizeOf5
  v5 := Try.zeroValue5
  infoByte := by kernel_rfl
  cellsByte := by kernel_rfl
  sizeByte := by kernel_rfl
  neB5 := by decide }
theorem Try.Builder_String_any_f (B b : Nat) (l : List UInt8) (w : World) (h : Lib.IsBuilderF 117 5 B b (Lib.byteCells l) w) (hBw : B ≤ w.heap.size) :
    Calls Try.prog 78 #[.pointer (some ⟨b, 0, none⟩)] w fun e w' => e = .returned (.string ⟨l.toArray⟩) ∧ (Lib.IsBuilderF 117 5 B b (Lib.byteCells l) w' ∧ Below B w w') := Any.Builder_String_any_f Try.lays169 Try.Builder_Extra_169 B b l w h hBw
def Try.lays165_ren : Go.Shelf.Ren := ⟨fun | 165 => 76 | 240 => 117 | 241 => 118 | 276 => 137 | 277 => 138 | n => n, fun | 70 => 115 | 3 => 3 | 0 => 0 | 4 => 4 | 9 => 9 | 20 => 20 | 72 => 117 | 37 => 46 | 164 => 174 | 5 => 5 | n => n, fun | n => n⟩
theorem Try.lays165 : Go.Proofs.Lays.n165 Try.prog Try.lays165_ren := {
  mixed := by kernel_rfl
  f165 := Try.func76.trans (congrArg some (by kernel_rfl))
  f240 := Try.func117.trans (congrArg some (by kernel_rfl))
  f241 := Try.func118.trans (congrArg some (by kernel_rfl))
  f276 := Try.func137.trans (congrArg some (by kernel_rfl))
  f277 := Try.func138.trans (congrArg some (by kernel_rfl))
  t0 := Try.underlying0
  a0 := Try.isAgg0
  z0 := Try.sizeOf0
  v0 := Try.zeroValue0
  t3 := Try.underlying3
  a3 := Try.isAgg3
  z3 := Try.sizeOf3
  v3 := Try.zeroValue3
  t4 := Try.underlying4
  a4 := Try.isAgg4
  z4 := Try.sizeOf4
  v4 := Try.zeroValue4
  t9 := Try.underlying9
  a9 := Try.isAgg9
  z9 := Try.sizeOf9
  v9 := Try.zeroValue9
  t20 := Try.underlying20
  a20 := Try.isAgg20
  z20 := Try.sizeOf20
  v20 := Try.zeroValue20
  t37 := Try.underlying46
  a37 := Try.isAgg46
  z37 := Try.sizeOf46
  v37 := Try.zeroValue46
  t70 := Try.underlying115
  a70 := Try.isAgg115
  z70 := Try.sizeOf115
  v70 := Try.zeroValue115
  t72 := Try.underlying117
  a72 := Try.isAgg117
  z72 := Try.sizeOf117
  v72 := Try.zeroValue117
  t164 := Try.underlying174
  a164 := Try.isAgg174
  z164 := Try.sizeOf174
  v164 := Try.zeroValue174 }
theorem Try.Builder_Extra_165 : Builder.Extra Try.prog Try.lays165_ren := {
  sizeBuilder := by kernel_rfl
  liesBuilder := by kernel_rfl
  t5 := Try.underlying5
  a5 := Try.isAgg5
  z5 := Try.sizeOf5
  v5 := Try.zeroValue5
  infoByte := by kernel_rfl
  cellsByte := by kernel_rfl
  sizeByte := by kernel_rfl
  neB5 := by decide }
theorem Try.Builder_Grow_fresh (B b n : Nat) (w : World) (hB : B ≤ b) (hbk : w.heap[b]? = some (.cells #[.pointer none, .slice none 0 0] 117 (0, 0))) (hBw : B ≤ w.heap.size) (hn : n ≤ 281474976710656) :
    Calls Try.prog 76 #[.pointer (some ⟨b, 0, none⟩), .int .i64 n] w fun e w' => e = .returned (.tuple #[]) ∧ (Lib.BuilderAt 117 5 B b (.pointer (some ⟨b, 0, none⟩)) [] w' ∧ Below B w w') := Any.Builder_Grow_fresh Try.lays165 Try.Builder_Extra_165 B b n w hB hbk hBw hn
end Go.Proofs
namespace Go.Proofs.Ytlbkoafeedlfaaa
open Go.RowKit

theorem Try.info5 : (Try.prog.info? 5).map (fun i => (i.zero, i.size, i.bytes)) = some (some (.int .u8 0), 1, 1) := by kernel_rfl

set_option maxRecDepth 100000 in
theorem checkUsed {w : World} {b : Nat} (h0 : w.cell? ⟨b, 0, none⟩ = some (.pointer (some ⟨b, 0, none⟩))) :
    Calls Try.prog 117 #[.pointer (some ⟨b, 0, none⟩)] w fun e w' => e = .returned (.tuple #[]) ∧ w = w' := by
  obtain ⟨j, hj, _⟩ := Option.map_eq_some_iff.1 (show (Try.prog.info? 117).map (·.size) = some 2 by kernel_rfl)
  go_enter Try.func117, Try.ntmps117
  go_wp2
  rw [Lib.run_neq_ptr_same w _ Try.underlying115 hj]
  go_wp2
  go_end0
  exact ⟨rfl, rfl⟩

set_option maxHeartbeats 1000000 in
set_option maxRecDepth 100000 in
theorem write_k (B b : Nat) (bs : List Value) (s : ByteArray) (w : World) (h : Lib.BuilderAtF 117 5 B b (.pointer (some ⟨b, 0, none⟩)) bs w) (hlen : bs.length + s.size ≤ 140737488355328) (hBw : B ≤ w.heap.size) :
    Calls Try.prog 120 #[.pointer (some ⟨b, 0, none⟩), .string s] w fun e w' => e = .returned (.tuple #[.int .i64 s.size, .nilIface]) ∧ (Lib.BuilderAtF 117 5 B b (.pointer (some ⟨b, 0, none⟩)) (bs ++ Lib.strCells s) w' ∧ Below B w w' ∧ Lib.OthersKept 5 (some b) w w' ∧ w.heap.size ≤ w'.heap.size) := by
  obtain ⟨i0, hi, hz0, hz1, hz2⟩ := info_parts Try.info5
  obtain ⟨hB, v, hbk, hown, hne⟩ := h
  have c0 : w.cell? ⟨b, 0, none⟩ = some (.pointer (some ⟨b, 0, none⟩)) := by rw [Lib.cell_of_heap hbk]; rfl
  have c1 : w.cell? ⟨b, 1, none⟩ = some v := by rw [Lib.cell_of_heap hbk]; rfl
  have HC := hide (checkUsed c0)
  go_enter Try.func120, Try.ntmps120
  go_wp2_with (first
    | (go_at_call 117; refine (unhide HC).mono ?_; rintro e w1 ⟨rfl, rfl⟩)
    | (at_builtin; refine Lib.wpList_append_own_stringF _ rfl _ _ 46 9 rfl B 5 i0 Try.underlying46 Try.underlying9 hi hz0 hz1 hz2 _ _ _ rfl hown s rfl ?c3 ?c4 ?c5 ?_))
  case c3 => unfold maxLen; omega
  case c4 => omega
  case c5 => omega
  intro v' w2 hown' hgrow _
  have hlt : b < w.heap.size := lt_of_block hbk
  have hb2 : w2.heap[b]? = some (.cells #[.pointer (some ⟨b, 0, none⟩), v] 117 (0, 0)) := by
    rw [hgrow.block b hlt (fun e => hne e.symm)]
    exact hbk
  have d0 : w2.cell? ⟨b, 0, none⟩ = some (.pointer (some ⟨b, 0, none⟩)) := by rw [Lib.cell_of_heap hb2]; rfl
  have d1 : w2.cell? ⟨b, 1, none⟩ = some v := by rw [Lib.cell_of_heap hb2]; rfl
  have f1 : w2.frozen? ⟨b, 1, none⟩ = false := Lib.frozen_of_heap hb2 1
  obtain ⟨ao, n', cap, rfl⟩ : ∃ ao n' cap, v' = .slice ao n' cap := by
    rcases hown'.2 with ⟨hv, _⟩ | ⟨g, cap, cur, fz, hv, _⟩
    · exact ⟨_, _, _, hv⟩
    · exact ⟨_, _, _, hv⟩
  go_wp2
  go_ret2
  refine ⟨rfl, ?_, ?_, ((Lib.OthersKept.refl 5 (some b) w).grown hgrow (Lib.ownsRowF_kind hown)).setCell ⟨b, 1, none⟩ rfl _, ?_⟩
  · exact Lib.BuilderAtF.put (T := 117) (e := 5) hB hb2 (bs' := bs ++ Lib.strCells s) (by simpa [Lib.strCells_length] using hown') (by decide)
  · exact ((Below.refl B w).grown hgrow hBw (fun k hk => (hown.lt k hk).1)).setCell (p := ⟨b, 1, none⟩) hB _
  · have := hgrow.size; simp; exact this
end Go.Proofs.Ytlbkoafeedlfaaa
