/-
  The children of a node, as a row of nodes (the program's). The document's UTF-8: a code point at a time.
-/
import Derived.Test.YtmnmaenmoaehlaaGreatDoorSZau
import Derived.Test.YtmnmaenmoaehlaaGreatDoorSZao
namespace Go.Proofs.YtmnmaenmoaehlaaGreatDoor
open Go.RowKit Go.Lib

/-- What was told of some nodes. -/
def KidL (ns : List NodeM) (K : List Nat) (l : List NodeM) : Prop := l.length = K.length ∧ ∀ (j : Nat) k, K[j]? = some k → ∃ n nk, l[j]? = some n ∧ ns[k]? = some nk ∧ n = { nk with av := n.av }
structure KI (base : Nat) (w wx : World) (v : Value) (l : List NodeM) : Prop where
  own : wx.ownsRow w.heap.size 51 12 v l.length (nodeRow l)
  attrs : ∀ (i : Nat) n, l[i]? = some n → ∃ ao cp, n.av = .slice ao n.attrs.length cp ∧ wx.ownsRow base 93 4 n.av n.attrs.length (attrRow n.attrs)
  below : Below w.heap.size w wx
theorem KI.more {base : Nat} {w wx w' : World} {v : Value} {l : List NodeM} (h : KI base w wx v l) (hb : Below wx.heap.size wx w') : KI base w w' v l := by
  have kept : ∀ {b : Nat} {e : TypeId} {s : Nat} {v : Value} {n : Nat} {xs : List Value}, wx.ownsRow b e s v n xs → w'.ownsRow b e s v n xs := fun ho => ownsRow_kept ho (fun k hk => hb.block k (ho.lt k hk).2)
  refine ⟨kept h.own, fun i n hi => ?_, h.below.trans (hb.mono h.below.size)⟩
  obtain ⟨ao, cp, e, ha⟩ := h.attrs i n hi
  exact ⟨ao, cp, e, kept ha⟩
theorem nodeRow_app (a b : List NodeM) : nodeRow (a ++ b) = nodeRow a ++ nodeRow b := by simp [nodeRow]
theorem KI.push {base : Nat} {w wx w' : World} {v v' : Value} {l : List NodeM} {m : NodeM} (h : KI base w wx v l) (hg : wx.grownBy w' v.ownBlock) (ho : w'.ownsRow w.heap.size 51 12 v' (l.length + 1) (nodeRow l ++ m.cells))
    (hm : ∃ ao cp, m.av = .slice ao m.attrs.length cp ∧ wx.ownsRow base 93 4 m.av m.attrs.length (attrRow m.attrs)) : KI base w w' v' (l ++ [m]) := by
  have kept : ∀ {av : Value} {n : Nat} {xs : List Value}, wx.ownsRow base 93 4 av n xs → w'.ownsRow base 93 4 av n xs := fun {av} {n} {xs} ha => ownsRow_kept ha (fun k hk => hg.block k (ha.lt k hk).2 (fun e => by
    obtain ⟨c1, h1⟩ := ownsRow_block ha hk
    obtain ⟨c2, h2⟩ := ownsRow_block h.own e.symm
    rw [h1] at h2
    cases h2))
  refine ⟨?_, fun i n hi => ?_, ?_⟩
  · rw [nodeRow_app, List.length_append]
    have : nodeRow [m] = m.cells := by simp [nodeRow]
    rw [this]
    exact ho
  · rw [List.getElem?_append] at hi
    split at hi
    · obtain ⟨ao, cp, e, ha⟩ := h.attrs i n hi
      exact ⟨ao, cp, e, kept ha⟩
    · rename_i hlt
      obtain rfl : n = m := by
        have : ([m] : List NodeM)[i - l.length]? = some n := hi
        cases hk : i - l.length with
        | zero => rw [hk] at this; exact (Option.some.inj this).symm
        | succ k => rw [hk] at this; simp at this
      obtain ⟨ao, cp, e, ha⟩ := hm
      exact ⟨ao, cp, e, kept ha⟩
  · refine h.below.trans ⟨hg.os, hg.tape, hg.output, hg.size, fun k hk => hg.block k (Nat.lt_of_lt_of_le hk h.below.size) (fun e => ?_)⟩
    have := (h.own.lt k e.symm).1
    omega
theorem KI.row {base : Nat} {w wx : World} {v : Value} {l : List NodeM} (h : KI base w wx v l) : ∃ a cp, v = .slice a l.length cp ∧ RowIn wx a l := by
  have hat : ∀ (i : Nat) n, l[i]? = some n → ∃ ao cp, n.av = .slice ao n.attrs.length cp ∧ AttrsIn wx ao n.attrs := fun i n hi => by
    obtain ⟨ao, cp, e, ha⟩ := h.attrs i n hi
    obtain ⟨a2, c2, e2, ha2⟩ := ownsRow_attrs ha
    exact ⟨a2, c2, e2, ha2⟩
  rcases h.own.2 with ⟨e, h0⟩ | ⟨g, cap, cur, e, _⟩
  · refine ⟨none, 0, by rw [e, h0], ⟨fun i n hi => ?_, hat⟩⟩
    rw [List.eq_nil_of_length_eq_zero h0] at hi
    cases hi
  · refine ⟨some ⟨g, 0, none⟩, cap, e, ⟨fun i n hi => ⟨g, 0, rfl, fun j u hj => ?_⟩, hat⟩⟩
    have hj12 : j < 12 := by have := (List.getElem?_eq_some_iff.1 hj).1; rwa [node_len] at this
    have hi2 := (List.getElem?_eq_some_iff.1 hi).1
    have ho := h.own
    rw [e] at ho
    rw [Nat.zero_add, ho.cellAt (i * 12 + j) (by omega), nodeRow, flat_get NodeM.cells 12 node_len l i j hj12, hi]
    exact hj

theorem Tryz.infoNode : (Tryz.prog.info? 51).map (fun i => (i.zero, i.size, i.bytes)) = some (some nodeZ, 12, 136) := by kernel_rfl

/-- What Node hands back, in a row of its own. -/
theorem news12 (W : World) (m : NodeM) : ∀ (j : Nat) u, m.cells[j]? = some u → (W.alloc (.cells m.cells.toArray 51)).cell? ((⟨W.heap.size, 0, none⟩ : Addr).add j) = some u := by
  intro j u hj
  have ad : (⟨W.heap.size, 0, none⟩ : Addr).add j = ⟨W.heap.size, j, none⟩ := by unfold Addr.add; split <;> simp_all
  rw [ad, cell_row _ _ _ _ _ _ (heap_alloc_new W _)]
  simpa using hj
theorem cells_one (m : NodeM) (hav : m.av.oneCell' = true) : ∀ u ∈ m.cells, u.oneCell' = true := by
  intro u hu
  simp only [NodeM.cells, List.mem_cons, List.not_mem_nil, or_false] at hu
  rcases hu with rfl | rfl | rfl | rfl | rfl | rfl | rfl | rfl | rfl | rfl | rfl | rfl <;> first | rfl | exact hav

set_option maxHeartbeats 4000000 in
set_option maxRecDepth 100000 in
theorem kidsOf_any {w : World} {base bA : Nat} {ns : List NodeM} {os : List OneM} {F : Nat → Prop} (h : ArS w base bA ns F) (hs : Sim ns os) (p : Nat) (op : OneM) (hop : os[p]? = some op) (x : NodeM) (a : Option Addr) (cap : Nat) (hx : x.first = headI op.kids) (hmax : op.kids.length ≤ 1000000) :
    Calls Tryz.prog 59 #[.pointer (some ⟨bA, 0, none⟩), nodW x a cap] w fun e w' => ∃ v l, e = .returned v ∧ KI base w w' v l ∧ KidL ns op.kids l := by
  have HK0 : Hid (KI base w (w.alloc (nodeB x a cap)) (.slice none 0 0) []) := hide ⟨World.ownsRow_nil _ _ _ _, fun i n hi => (by cases hi), (Below.refl _ _).alloc (Nat.le_refl _) _⟩
  have HAR := hide (fun W (hb : Below w.heap.size w W) => h.below hb)
  have HS := hide hs
  have HX := hide hx
  have HOP := hide hop
  have HMAX := hide hmax
  obtain ⟨ti, hi0, hz0, hz1, hz2⟩ := info_parts Tryz.infoNode
  clear hs h hx hop hmax
  unfold nodeB at HK0
  unfold nodW
  go_enter Tryz.func59, Tryz.ntmps59
  go_wp2
  go_loopg [5, 6] op.kids.length (fun g v5 v6 wx => ∃ (A B : List Nat) (l : List NodeM), op.kids = A ++ B ∧ B.length = g ∧ v6 = .int .i64 (headI B) ∧ KI base w wx v5 l ∧ KidL ns A l)
  case atStart => exact ⟨[], op.kids, [], rfl, rfl, by rw [unhide HX], unhide HK0, rfl, fun j k hk => by cases hk⟩
  case round =>
    obtain ⟨A, B, l, hAB, hBg, rfl, hki, hkl⟩ := hrel
    cases B with
    | nil =>
      have HKI := hide hki
      have HKL := hide hkl
      have HAB := hide hAB
      clear hki hkl hAB
      unfold headI
      go_wp2
      go_ret
      have hfin : KidL ns op.kids l := by rw [unhide HAB, List.append_nil]; exact unhide HKL
      first | exact ⟨l, unhide HKI, hfin⟩ | exact ⟨_, l, rfl, unhide HKI, hfin⟩
    | cons c B =>
      have hK := (unhide HS).kids p op (unhide HOP)
      obtain ⟨nc, hnc⟩ : ∃ nc, ns[c]? = some nc := by
        have := hK.mem c (by rw [hAB]; simp)
        exact ⟨_, List.getElem?_eq_getElem this⟩
      have hnext := ((unhide HS).nbrs hnc (unhide HOP) hAB).2.1
      have hcz : ((c : Int) != -1) = true := by rw [bne_iff_ne]; omega
      have HN := hide (node_in ((unhide HAR) wr hki.below) c nc hnc)
      have hlen : l.length < 1000000 := by have h1 := unhide HMAX; rw [hAB, List.length_append, List.length_cons] at h1; rw [hkl.1]; omega
      have HKI := hide hki
      have HKL := hide hkl
      have HAB := hide hAB
      have HNC := hide hnc
      have HNX := hide hnext
      clear hK hki hkl hAB hnc hnext
      unfold headI
      have HPREP : Hid (∀ w1 ao cp, w1.ownsRow base 93 4 (.slice ao nc.attrs.length cp) nc.attrs.length (attrRow nc.attrs) → Below wr.heap.size wr w1 →
          KI base w ((w1.alloc (nodeB nc ao cp)).alloc (nodeB nc ao cp)) u5 l ∧ (∀ (j : Nat) u, ({ nc with av := .slice ao nc.attrs.length cp } : NodeM).cells[j]? = some u → ((w1.alloc (nodeB nc ao cp)).alloc (nodeB nc ao cp)).cell? ((⟨w1.heap.size + 1, 0, none⟩ : Addr).add j) = some u) ∧
          w.heap.size ≤ ((w1.alloc (nodeB nc ao cp)).alloc (nodeB nc ao cp)).heap.size ∧
          ∀ v' w2, w2.ownsRow w.heap.size 51 12 v' (l.length + 1) (nodeRow l ++ ({ nc with av := .slice ao nc.attrs.length cp } : NodeM).cells) → ((w1.alloc (nodeB nc ao cp)).alloc (nodeB nc ao cp)).grownBy w2 u5.ownBlock →
            w2.cell? ⟨w1.heap.size, 10, none⟩ = some (.int .i64 (headI B)) ∧ KI base w w2 v' (l ++ [{ nc with av := .slice ao nc.attrs.length cp }])) := hide (fun w1 ao cp ho1 hb1 => by
        have hb2 : Below wr.heap.size wr ((w1.alloc (nodeB nc ao cp)).alloc (nodeB nc ao cp)) := (hb1.alloc hb1.size _).alloc (by have := hb1.size; simp; omega) _
        have hk2 := (unhide HKI).more hb2
        refine ⟨hk2, ?_, hk2.below.size, fun v' w2 ho2 hg2 => ⟨?_, hk2.push hg2 ho2 ⟨ao, cp, rfl, ?_⟩⟩⟩
        · have := news12 (w1.alloc (nodeB nc ao cp)) { nc with av := .slice ao nc.attrs.length cp }
          rw [World.size_alloc] at this
          exact this
        · have hne : some w1.heap.size ≠ u5.ownBlock := fun e => by
            have := ((unhide HKI).own.lt _ e.symm).2
            have := hb1.size
            omega
          have hb3 : w2.heap[w1.heap.size]? = some (nodeB nc ao cp) := by
            rw [hg2.block _ (by simp; omega) hne, Below.heap_alloc _ _ _ (by simp), World.alloc_heap_new]
          rw [← unhide HNX]
          exact cell_row _ _ 10 _ _ _ hb3
        · exact (ho1.alloc _).alloc _)
      unfold nodeB at HPREP
      have hbytes : (l.length + 1) * 136 ≤ 140737488355328 := by omega
      have h63 : l.length + 1 ≤ maxLen := by unfold maxLen; omega
      go_wp2_with (first
        | (go_at_call 20; refine (unhide HN).mono ?_; rintro e w1 ⟨ao, cp, rfl, ho1, hb1, _⟩; obtain ⟨p1, p2, p3, p4⟩ := (unhide HPREP) w1 ao cp ho1 hb1; have P1 := hide p1; have P2 := hide p2; have P3 := hide p3; have P4 := hide p4; clear p1 p2 p3 p4 ho1 hb1; unfold nodeV NodeM.cells)
        | (at_builtin; refine wpList_append_own _ rfl _ _ 71 rfl w.heap.size 51 ti _ 12 136 Tryz.underlying71 hi0 hz0 hz1 hz2 rfl (by omega) u5 l.length (nodeRow l) rfl (unhide P1).own ⟨w1.heap.size + 1, 0, none⟩ 1 1 ({ nc with av := .slice ao nc.attrs.length cp } : NodeM).cells rfl rfl (unhide P2) (cells_one _ rfl) h63 hbytes (unhide P3) ?_; intro v' w2 ho2 hg2 _; obtain ⟨d10, p5⟩ := (unhide P4) v' w2 ho2 hg2; have P5 := hide p5; clear p5 ho2 hg2))
      go_roundg (gk - 1)
      case measure => simp only [List.length_cons] at hBg; omega
      case rel =>
        refine ⟨A ++ [c], B, l ++ [{ nc with av := .slice ao nc.attrs.length cp }], by rw [unhide HAB, List.append_assoc]; rfl, by simp only [List.length_cons] at hBg; omega, rfl, unhide P5, ?_⟩
        obtain ⟨q1, q2⟩ := unhide HKL
        refine ⟨by simp [q1], fun j k hk => ?_⟩
        rw [List.getElem?_append] at hk
        split at hk
        · rename_i hlt
          obtain ⟨n, nk, e1, e2, e3⟩ := q2 j k hk
          exact ⟨n, nk, by rw [List.getElem?_append_left (by rw [q1]; exact hlt)]; exact e1, e2, e3⟩
        · rename_i hlt
          have hj : j - A.length = 0 := by
            have := (List.getElem?_eq_some_iff.1 hk).1
            simp at this
            omega
          rw [hj] at hk
          cases hk
          exact ⟨_, nc, by rw [List.getElem?_append_right (by rw [q1]; omega), q1, hj]; rfl, unhide HNC, rfl⟩
end Go.Proofs.YtmnmaenmoaehlaaGreatDoor

namespace Go.Proofs.YtmnmaenmoaehlaaGreatDoor
open Go.RowKit Go.Lib

def BytesAt (w : World) (a : Option Addr) (l : List UInt8) : Prop := ∀ (i : Nat) c, l[i]? = some c → ∃ b off, a = some ⟨b, off, none⟩ ∧ w.cell? ⟨b, off + i, none⟩ = some (.int .u8 (c.toNat : Int))
theorem BytesAt.below {w w' : World} {a : Option Addr} {l : List UInt8} (h : BytesAt w a l) (hb : Below w.heap.size w w') : BytesAt w' a l := by
  intro i c hi
  obtain ⟨b, off, e, c0⟩ := h i c hi
  exact ⟨b, off, e, (hb.cell (p := ⟨b, off + i, none⟩) (World.block_lt_of_cell? w _ c0)).trans c0⟩

def wantsV (c : Nat) : Int × Nat × Nat :=
  if c < 128 then (0, 0, 0) else if 194 ≤ c ∧ c ≤ 223 then (1, 128, 191) else if c = 224 then (2, 160, 191) else if c = 237 then (2, 128, 159) else if 225 ≤ c ∧ c ≤ 239 then (2, 128, 191) else if c = 240 then (3, 144, 191) else if c = 244 then (3, 128, 143) else if 241 ≤ c ∧ c ≤ 243 then (3, 128, 191) else (-1, 0, 0)
theorem wantsV_eq (c : Nat) : wantsV c = (match wantsM c with | none => (-1, 0, 0) | some (n, lo, hi) => ((n : Int), lo, hi)) := by
  unfold wantsV wantsM
  by_cases h0 : c < 128
  · rw [if_pos h0, if_pos h0]; rfl
  rw [if_neg h0, if_neg h0]
  by_cases h1 : 194 ≤ c ∧ c ≤ 223
  · rw [if_pos h1, if_pos h1]; rfl
  rw [if_neg h1, if_neg h1]
  by_cases h2 : c = 224
  · rw [if_pos h2, if_pos h2]; rfl
  rw [if_neg h2, if_neg h2]
  by_cases h3 : c = 237
  · rw [if_pos h3, if_pos h3]; rfl
  rw [if_neg h3, if_neg h3]
  by_cases h4 : 225 ≤ c ∧ c ≤ 239
  · rw [if_pos h4, if_pos h4]; rfl
  rw [if_neg h4, if_neg h4]
  by_cases h5 : c = 240
  · rw [if_pos h5, if_pos h5]; rfl
  rw [if_neg h5, if_neg h5]
  by_cases h6 : c = 244
  · rw [if_pos h6, if_pos h6]; rfl
  rw [if_neg h6, if_neg h6]
  by_cases h7 : 241 ≤ c ∧ c ≤ 243
  · rw [if_pos h7, if_pos h7]; rfl
  rw [if_neg h7, if_neg h7]

set_option maxHeartbeats 4000000 in
set_option maxRecDepth 100000 in
theorem wants_any (c : UInt8) (w : World) : Calls Tryz.prog 140 #[.int .u8 (c.toNat : Int)] w fun e w' => e = .returned (.tuple #[.int .i64 (wantsV c.toNat).1, .int .u8 ((wantsV c.toNat).2.1 : Nat), .int .u8 ((wantsV c.toNat).2.2 : Nat)]) ∧ w' = w := by
  obtain ⟨q, hq⟩ : ∃ q, wantsV c.toNat = q := ⟨_, rfl⟩
  rw [hq]
  have HQ := hide hq
  clear hq
  go_enter Tryz.func140, Tryz.ntmps140
  go_wp2
  all_goals refine bodyPost_ret (results_tmp3 rfl _ _ _) rfl ?_
  all_goals refine ⟨?_, rfl⟩
  all_goals rw [← unhide HQ]
  all_goals unfold wantsV
  all_goals clear HQ
  all_goals (try simp only [beq_iff_eq, beq_eq_false_iff_ne, ne_eq] at *)
  all_goals (try (exfalso; omega; done))
  all_goals repeat (first | rw [if_pos (by omega)] | rw [if_neg (by omega)])
  all_goals rfl
end Go.Proofs.YtmnmaenmoaehlaaGreatDoor
