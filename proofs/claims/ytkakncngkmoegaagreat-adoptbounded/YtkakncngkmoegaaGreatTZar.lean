/-
  PlaceZero: without an arena or a stack nothing is put. 
-/
import Derived.Test.YtkakncngkmoegaaGreatSZac
import Derived.Test.YtkakncngkmoegaaGreatSZak
import Derived.Deep.LoopGhost
import Derived.Test.YtkakncngkmoegaaGreatTZaq
import Derived.Deep.QuietTactic
import Derived.BigQuiet
namespace Go.Proofs.YtkakncngkmoegaaGreat
open Go.RowKit

def spotV (p b : Int) : Value := .agg #[.int .i64 p, .int .i64 b]

/-- A place in a block of its own. -/
def Box2 (W : World) (b : Nat) (p q : Int) : Prop := W.heap[b]? = some (.cells #[.int .i64 p, .int .i64 q] 159 (0, 0))
theorem Box2.cells {W : World} {b : Nat} {p q : Int} (h : Box2 W b p q) : W.cell? ⟨b, 0, none⟩ = some (.int .i64 p) ∧ W.cell? ⟨b, 1, none⟩ = some (.int .i64 q) ∧ W.frozen? ⟨b, 0, none⟩ = false ∧ W.frozen? ⟨b, 1, none⟩ = false := by
  unfold Box2 at h
  refine ⟨by simp [World.cell?, h], by simp [World.cell?, h], by simp [World.frozen?, h], by simp [World.frozen?, h]⟩
theorem Box2.new (w : World) (p q : Int) : Box2 (w.alloc (.cells #[.int .i64 p, .int .i64 q] 159)) w.heap.size p q := heap_alloc_new w _
theorem Box2.below {w w' : World} {b : Nat} {p q : Int} (h : Box2 w b p q) (hb : Below w.heap.size w w') : Box2 w' b p q := (hb.block _ (lt_of_block h)).trans h
theorem Box2.alloc {w : World} {b : Nat} {p q : Int} (h : Box2 w b p q) (o : Obj) : Box2 (w.alloc o) b p q := h.below ((Below.refl _ _).alloc (Nat.le_refl _) _)
theorem spot_ret {f : Func} {p u : Tmp} (hr : f.results = #[.cell p 159, .tmp u]) {W : World} {b : Nat} {x y : Int} (h : Box2 W b x y) (tmps : Array Value) (v : Value) (hp : tmps.getD p undef = .pointer (some ⟨b, 0, none⟩)) (hu : tmps.getD u undef = v) :
    (results f tmps).run Tryz.prog W = .ok (.tuple #[spotV x y, v]) W := by
  obtain ⟨c0, c1, _⟩ := h.cells
  rw [results_cell_tmp hr tmps Tryz.prog W, hp, hu]
  simp [go_sem, c0, c1, spotV]

section
variable {w : World}
theorem madeA_any {base bA : Nat} {ns : List NodeM} {F : Nat → Prop} (h : ArS w base bA ns F) (hn : 0 < ns.length) : Calls Tryz.prog 161 #[.pointer (some ⟨bA, 0, none⟩)] w fun e w' => e = .returned (.bool true) ∧ w = w' := by
  obtain ⟨bS, g, cap, h, _⟩ := h
  have HL := hide (len_any h)
  have h1 : ((ns.length : Int) != 0) = true := by rw [bne_iff_ne]; omega
  have h2 : ¬ ((ns.length : Int) = 0) := by omega
  clear h
  go_enter Tryz.func161, Tryz.ntmps161
  go_wp2_with (go_at_call 12; refine (unhide HL).mono ?_; rintro e w' ⟨rfl, rfl⟩)
  go_ret
  exact ⟨rfl, rfl⟩
end
end Go.Proofs.YtkakncngkmoegaaGreat

namespace Go.Proofs.YtkakncngkmoegaaGreat
open Go.RowKit

theorem results_cell {fn : Func} {p : Tmp} {ty : TypeId} (h : fn.results = #[.cell p ty]) (tmps : Array Value) (P : Program) (w : World) :
    (results fn tmps).run P w = ((asAddr (tmps.getD p undef)).run P w).andThen fun a w₁ => (loadVar ty a).run P w₁ := by
  simp only [results, h]
  simp [Sem.run_bind, Result.andThen]
theorem spot_ret1 {f : Func} {p : Tmp} (hr : f.results = #[.cell p 159]) {W : World} {b : Nat} {x y : Int} (h : Box2 W b x y) (tmps : Array Value) (hp : tmps.getD p undef = .pointer (some ⟨b, 0, none⟩)) :
    (results f tmps).run Tryz.prog W = .ok (spotV x y) W := by
  obtain ⟨c0, c1, _⟩ := h.cells
  rw [results_cell hr tmps Tryz.prog W, hp]
  simp [go_sem, c0, c1, spotV]

theorem atEnd_any (w : World) (id : Int) : Calls Tryz.prog 164 #[.int .i64 id] w fun e w' => e = .returned (spotV id (-1)) ∧ Below w.heap.size w w' := by
  go_enter Tryz.func164, Tryz.ntmps164
  go_wp2
  exact bodyPost_ret (spot_ret1 (p := 2) Tryz.results164 (b := w.heap.size) (Box2.new w id (-1)) _ rfl) rfl ⟨rfl, below_new w _⟩

def isOfM (n : NodeM) (l : List ByteArray) : Bool := n.kind == 1 && n.space == 0 && hasT l n.name
set_option maxHeartbeats 1000000 in
theorem isOf_any {w : World} (n : NodeM) (v : Value) (l : List ByteArray) (hl : l.length ≤ 1000) (b : Nat) (ht : TabAt w b l) :
    Calls Tryz.prog 194 #[nodeV n v, .slice (some ⟨b, 0, none⟩) l.length l.length] w fun e w' => e = .returned (.bool (isOfM n l)) ∧ Below w.heap.size w w' := by
  unfold isOfM
  obtain ⟨nk, nsp, nm, av, da, sy, pa, fi, la, pr, ne, inn, att⟩ := n
  simp only [nodeV, NodeM.cells]
  by_cases hk : nk = 1
  · by_cases hs : nsp = 0
    · subst hk; subst hs
      have hr : ((1 : Int) == 1 && (0 : Int) == 0 && hasT l nm) = hasT l nm := by simp
      rw [hr]
      clear hr
      have hlz : (l.length : Int) ≤ 1000 := by omega
      have HT := hide (ht.below (below_new w (.cells #[.int .i64 1, .int .i64 0, .string nm, v, .string da, .string sy, .int .i64 pa, .int .i64 fi, .int .i64 la, .int .i64 pr, .int .i64 ne, .int .i64 inn] 47)))
      unfold hasT
      clear ht hl
      go_enter Tryz.func194, Tryz.ntmps194
      go_wp2
      go_loopg [6, 17] l.length (fun g _ s8 wr => ∃ j : Nat, j + g = l.length ∧ s8 = .int .i64 j ∧ wr = w.alloc (.cells #[.int .i64 1, .int .i64 0, .string nm, v, .string da, .string sy, .int .i64 pa, .int .i64 fi, .int .i64 la, .int .i64 pr, .int .i64 ne, .int .i64 inn] 47) ∧ (∀ i s, i < j → l[i]? = some s → (nm.toList == s.toList) = false))
      case atStart => exact ⟨0, by omega, rfl, rfl, fun i s hi => absurd hi (Nat.not_lt_zero _)⟩
      case round =>
        obtain ⟨j, hjg, rfl, rfl, hno⟩ := hrel
        have HN := hide hno
        clear hno
        by_cases hj : j < l.length
        · have hjz : (j : Int) < (l.length : Int) := by omega
          obtain ⟨y, hy⟩ : ∃ y, l[j]? = some y := ⟨_, List.getElem?_eq_getElem hj⟩
          have hcell := (unhide HT).cells j y hy
          have HY := hide hy
          clear hy
          cases hq : (nm.toList == y.toList) with
          | true =>
            have HQ := hide hq
            go_wp2
            go_ret
            refine ⟨?_, below_new _ _⟩
            rw [List.any_eq_true.2 ⟨y, List.mem_of_getElem? (unhide HY), unhide HQ⟩]
            rfl
          | false =>
            have HQ := hide hq
            go_wp2
            go_roundg (gk - 1)
            case measure => omega
            case rel =>
              refine ⟨j + 1, by omega, by go_num, rfl, fun i s hi hs => ?_⟩
              by_cases e : i = j
              · subst e; rw [unhide HY] at hs; cases hs; exact unhide HQ
              · exact (unhide HN) i s (by omega) hs
        · have hjz : ¬ (j : Int) < (l.length : Int) := by omega
          obtain rfl : j = l.length := by omega
          go_wp2
          go_ret
          refine ⟨?_, below_new _ _⟩
          have : (l.any fun x => nm.toList == x.toList) = false := by
            rw [List.any_eq_false]
            intro s hs
            obtain ⟨i, hi⟩ := List.getElem?_of_mem hs
            rw [(unhide HN) i s (List.getElem?_eq_some_iff.1 hi).1 hi]
            exact Bool.false_ne_true
          rw [this]
          rfl
    · have hs2 : (nsp != 0) = true := by simp [hs]
      have hr : (nk == 1 && nsp == 0 && hasT l nm) = false := by simp [hs]
      subst hk
      rw [hr]
      clear hr ht hl
      go_enter Tryz.func194, Tryz.ntmps194
      go_wp2
      go_ret
      exact ⟨rfl, below_new _ _⟩
  · have hk2 : (nk != 1) = true := by simp [hk]
    have hr : (nk == 1 && nsp == 0 && hasT l nm) = false := by simp [hk]
    rw [hr]
    clear hr ht hl
    go_enter Tryz.func194, Tryz.ntmps194
    go_wp2
    go_ret
    exact ⟨rfl, below_new _ _⟩

def NumsAt (w : World) (b : Nat) (l : List Int) : Prop := ∀ j x, l[j]? = some x → w.cell? ⟨b, j, none⟩ = some (.int .i64 x)
set_option maxHeartbeats 1000000 in
theorem there_any {w : World} {base bA : Nat} {ns : List NodeM} {F : Nat → Prop} (h : ArS w base bA ns F) (l : List Int) (hl : l.length ≤ 1000) (b : Nat) (ht : NumsAt w b l) :
    Calls Tryz.prog 163 #[.pointer (some ⟨bA, 0, none⟩), .slice (some ⟨b, 0, none⟩) l.length l.length] w fun e w' => e = .returned (.bool (l.all fun k => hasM ns k)) ∧ w = w' := by
  obtain ⟨bS, g, cap, h, _⟩ := h
  have HL := hide (len_any h)
  have HT := hide ht
  have hlz : (l.length : Int) ≤ 1000 := by omega
  have hm := h.most
  clear h ht hl
  go_enter Tryz.func163, Tryz.ntmps163
  go_wp2
  go_loopg [6, 9] l.length (fun g _ s8 wr => ∃ j : Nat, j + g = l.length ∧ s8 = .int .i64 j ∧ wr = w ∧ (∀ i s, i < j → l[i]? = some s → hasM ns s = true))
  case atStart => exact ⟨0, by omega, rfl, rfl, fun i s hi => absurd hi (Nat.not_lt_zero _)⟩
  case round =>
    obtain ⟨j, hjg, rfl, rfl, hno⟩ := hrel
    have HN := hide hno
    clear hno
    by_cases hj : j < l.length
    · have hjz : (j : Int) < (l.length : Int) := by omega
      obtain ⟨y, hy⟩ : ∃ y, l[j]? = some y := ⟨_, List.getElem?_eq_getElem hj⟩
      have hcell := (unhide HT) j y hy
      have HY := hide hy
      clear hy
      have bad : hasM ns y = false → (l.all fun k => hasM ns k) = false := fun hb => by
        rw [List.all_eq_false]
        exact ⟨y, List.mem_of_getElem? (unhide HY), by rw [hb]; exact Bool.false_ne_true⟩
      have HBAD := hide bad
      clear bad
      generalize hnn : (ns.length : Int) = nn at *
      have HNN := hide hnn
      clear hnn
      by_cases h0 : y < 0
      · have HF := hide (show hasM ns y = false by unfold hasM; exact decide_eq_false (by omega))
        go_wp2_with (go_at_call 12; refine (unhide HL).mono ?_; rintro e w' ⟨rfl, rfl⟩)
        go_ret
        rw [(unhide HBAD) (unhide HF)]
        exact ⟨rfl, rfl⟩
      · by_cases h1 : nn ≤ y
        · have HF := hide (show hasM ns y = false by unfold hasM; exact decide_eq_false (by have := unhide HNN; omega))
          go_wp2_with (go_at_call 12; refine (unhide HL).mono ?_; rintro e w' ⟨rfl, rfl⟩)
          go_ret
          rw [(unhide HBAD) (unhide HF)]
          exact ⟨rfl, rfl⟩
        · have HF := hide (show hasM ns y = true by unfold hasM; exact decide_eq_true (by have := unhide HNN; omega))
          go_wp2_with (go_at_call 12; refine (unhide HL).mono ?_; rintro e w' ⟨rfl, rfl⟩)
          go_roundg (gk - 1)
          case measure => omega
          case rel =>
            refine ⟨j + 1, by omega, by go_num, rfl, fun i s hi hs => ?_⟩
            by_cases e : i = j
            · subst e; rw [unhide HY] at hs; cases hs; exact unhide HF
            · exact (unhide HN) i s (by omega) hs
    · have hjz : ¬ (j : Int) < (l.length : Int) := by omega
      obtain rfl : j = l.length := by omega
      go_wp2
      go_ret
      refine ⟨?_, rfl⟩
      have : (l.all fun k => hasM ns k) = true := by
        rw [List.all_eq_true]
        intro s hs
        obtain ⟨i, hi⟩ := List.getElem?_of_mem hs
        exact (unhide HN) i s (List.getElem?_eq_some_iff.1 hi).1 hi
      rw [this]
      rfl
end Go.Proofs.YtkakncngkmoegaaGreat

namespace Go.Proofs.YtkakncngkmoegaaGreat
open Go.RowKit

theorem two_block (w : World) (b : Nat) (v0 v1 x0 x1 : Value) (t : TypeId) (h : w.heap[b]? = some (.cells #[x0, x1] t (0, 0))) : ((w.setCell ⟨b, 0, none⟩ v0).setCell ⟨b, 1, none⟩ v1).heap[b]? = some (.cells #[v0, v1] t (0, 0)) := by
  have h0 := heap_setCell_same w b 0 #[x0, x1] t v0 h
  have h1 := heap_setCell_same _ b 1 _ t v1 h0
  simpa using h1

structure NodeIs (o : OneM) (n : NodeM) : Prop where
  same : Same n o
  last : n.last = lastK o.kids
def tmplB : ByteArray := ⟨#[116, 101, 109, 112, 108, 97, 116, 101]⟩
def isOfO (o : OneM) (l : List ByteArray) : Bool := o.kind == 1 && o.space == 0 && hasT l o.name
theorem NodeIs.of {o : OneM} {n : NodeM} (h : NodeIs o n) (l : List ByteArray) : isOfM n l = isOfO o l := by
  unfold isOfM isOfO
  rw [h.same.kind, h.same.space, h.same.name]

section
variable {w wx : World} {obs : List (Ob w.heap.size)} {i j bA bR bK bW : Nat} {os : List OneM} {L : List Int}
theorem anode_in (h : Env w wx obs) (hi : obs[i]? = some (aO _ bA os)) {k : Nat} {o : OneM} (ho : os[k]? = some o) :
    Calls Tryz.prog 14 #[.pointer (some ⟨bA, 0, none⟩), .int .i64 k] wx fun e w' => ∃ (n : NodeM) (ao : Option Addr) (m c : Nat), e = .returned (.tuple #[nodeV n (.slice ao m c), .int .i64 0]) ∧ NodeIs o n ∧ Below wx.heap.size wx w' := by
  obtain ⟨ns, F, h1, hs, _⟩ := h.a hi
  obtain ⟨n, hn, sm⟩ := hs.get ho
  refine (node_in h1 k n hn).mono ?_
  rintro e w' ⟨ao, cp, rfl, _, hb, _⟩
  exact ⟨n, ao, _, cp, rfl, ⟨sm, (hs.first_nil hn ho).2⟩, hb⟩
theorem anode_no (h : Env w wx obs) (hi : obs[i]? = some (aO _ bA os)) {k : Int} (hk : hasO os k = false) :
    Calls Tryz.prog 14 #[.pointer (some ⟨bA, 0, none⟩), .int .i64 k] wx fun e w' => e = .returned (.tuple #[nodeZ, .int .i64 6]) ∧ Below wx.heap.size wx w' := by
  obtain ⟨ns, F, h1, hs, _⟩ := h.a hi
  exact node_no h1 k (by rw [hs.hasM]; exact hk)
theorem amadeA (h : Env w wx obs) (hi : obs[i]? = some (aO _ bA os)) : Calls Tryz.prog 161 #[.pointer (some ⟨bA, 0, none⟩)] wx fun e w' => e = .returned (.bool true) ∧ wx = w' := by
  have hm := (h.mostA hi).2
  obtain ⟨ns, F, h1, hs, _⟩ := h.a hi
  exact madeA_any h1 (by rw [hs.len]; exact hm)
theorem sremove_no {W : World} {base : Nat} {F : Nat → Prop} {el : Int → Option Cal} (hs : StkS W base bK bA el L F) (hl : L.length ≤ 100000) (hn : L.Nodup) {id : Int} (hx : id ∉ L) : Calls Tryz.prog 81 #[.pointer (some ⟨bK, 0, none⟩), .int .i64 id] W fun e w' => e = .returned (.int .i64 6) ∧ W = w' := by
  have hf := sfind_any hs hl hn id
  rw [findM_out hx] at hf
  have HF := hide hf
  have HM := hide hs.self.made
  clear hf hs hl hn hx
  go_enter Tryz.func81, Tryz.ntmps81
  go_wp2_with (first | (go_at_call 48; refine (unhide HM).mono ?_; rintro e w' ⟨rfl, rfl⟩) | (go_at_call 89; refine (unhide HF).mono ?_; rintro e w' ⟨rfl, rfl⟩))
  go_ret
  exact ⟨rfl, rfl⟩
theorem amadeS (h : Env w wx obs) (hi : obs[i]? = some (aO _ bA os)) (hj : obs[j]? = some (stOb _ bK bA (keysO os) L)) (hij : i ≠ j) (hg : Good (keysO os) L) : Calls Tryz.prog 162 #[.pointer (some ⟨bK, 0, none⟩)] wx fun e w' => e = .returned (.bool true) ∧ wx = w' := by
  have hno : (-1 : Int) ∉ L := fun hx => by have := hg.pos hx; omega
  obtain ⟨FA, F, h1, h2, _⟩ := h.as hi hj hij
  have HR := hide (sremove_no h2 (by have := (Live.mk' h1 h2).few hg; omega) hg.nodup hno)
  clear h hi hj hg hno h1 h2
  go_enter Tryz.func162, Tryz.ntmps162
  go_wp2_with (go_at_call 81; refine (unhide HR).mono ?_; rintro e w' ⟨rfl, rfl⟩)
  go_ret
  exact ⟨rfl, rfl⟩
theorem athere (h : Env w wx obs) (hi : obs[i]? = some (aO _ bA os)) (l : List Int) (hl : l.length ≤ 1000) (b : Nat) (ht : NumsAt wx b l) :
    Calls Tryz.prog 163 #[.pointer (some ⟨bA, 0, none⟩), .slice (some ⟨b, 0, none⟩) l.length l.length] wx fun e w' => e = .returned (.bool (l.all fun k => hasO os k)) ∧ wx = w' := by
  obtain ⟨ns, F, h1, hs, _⟩ := h.a hi
  have := there_any h1 l hl b ht
  simp only [hs.hasM] at this
  exact this
theorem nums1 (W : World) (x : Int) : NumsAt (W.alloc (.cells #[.int .i64 x] 3)) W.heap.size [x] := by
  intro j y hj
  match j, hj with
  | 0, hj => simp at hj; subst hj; simp
theorem nums2 (W : World) (x y : Int) : NumsAt (W.alloc (.cells #[.int .i64 x, .int .i64 y] 3)) W.heap.size [x, y] := by
  intro j z hj
  match j, hj with
  | 0, hj => simp at hj; subst hj; simp
  | 1, hj => simp at hj; subst hj; simp
theorem athere1 (h : Env w wx obs) (hi : obs[i]? = some (aO _ bA os)) (x : Int) :
    Calls Tryz.prog 163 #[.pointer (some ⟨bA, 0, none⟩), .slice (some ⟨wx.heap.size, 0, none⟩) 1 1] (wx.alloc (.cells #[.int .i64 x] 3)) fun e w' => e = .returned (.bool (hasO os x)) ∧ wx.alloc (.cells #[.int .i64 x] 3) = w' := by
  have := athere (h.more (below_new wx (.cells #[.int .i64 x] 3))) hi [x] (by simp) wx.heap.size (nums1 wx x)
  simp only [List.all_cons, List.all_nil, Bool.and_true, List.length_cons, List.length_nil] at this
  exact this
theorem athere1b (h : Env w wx obs) (hi : obs[i]? = some (aO _ bA os)) (ob : Obj) (x : Int) :
    Calls Tryz.prog 163 #[.pointer (some ⟨bA, 0, none⟩), .slice (some ⟨wx.heap.size + 1, 0, none⟩) 1 1] ((wx.alloc ob).alloc (.cells #[.int .i64 x] 3)) fun e w' => e = .returned (.bool (hasO os x)) ∧ (wx.alloc ob).alloc (.cells #[.int .i64 x] 3) = w' := by
  have := athere1 (h.more (below_new wx ob)) hi x
  rw [show (wx.alloc ob).heap.size = wx.heap.size + 1 by simp] at this
  exact this
theorem athere2 (h : Env w wx obs) (hi : obs[i]? = some (aO _ bA os)) (x y : Int) :
    Calls Tryz.prog 163 #[.pointer (some ⟨bA, 0, none⟩), .slice (some ⟨wx.heap.size, 0, none⟩) 2 2] (wx.alloc (.cells #[.int .i64 x, .int .i64 y] 3)) fun e w' => e = .returned (.bool (hasO os x && hasO os y)) ∧ wx.alloc (.cells #[.int .i64 x, .int .i64 y] 3) = w' := by
  have := athere (h.more (below_new wx (.cells #[.int .i64 x, .int .i64 y] 3))) hi [x, y] (by simp) wx.heap.size (nums2 wx x y)
  simp only [List.all_cons, List.all_nil, Bool.and_true, List.length_cons, List.length_nil] at this
  exact this
def nodeA (nk nsp : Int) (nm : ByteArray) (v : Value) (da sy : ByteArray) (pa fi la pr ne inn : Int) : Array Value := #[.int .i64 nk, .int .i64 nsp, .string nm, v, .string da, .string sy, .int .i64 pa, .int .i64 fi, .int .i64 la, .int .i64 pr, .int .i64 ne, .int .i64 inn]
theorem isOf1 {o : OneM} {nk nsp : Int} {nm : ByteArray} {av : Value} {da sy : ByteArray} {pa fi la pr ne inn : Int} {att : List AttrM} (hq : NodeIs o ⟨nk, nsp, nm, av, da, sy, pa, fi, la, pr, ne, inn, att⟩) (v : Value) (W0 : World) (cs : Array Value) (t : TypeId) :
    Calls Tryz.prog 194 #[.agg (nodeA nk nsp nm v da sy pa fi la pr ne inn), .slice (some ⟨W0.heap.size + 1, 0, none⟩) 1 1] ((W0.alloc (.cells cs t)).alloc (.cells #[.string tmplB] 9)) fun e w' => e = .returned (.bool (isOfO o [tmplB])) ∧ Below (W0.alloc (.cells cs t)).heap.size (W0.alloc (.cells cs t)) w' := by
  have hsz : W0.heap.size + 1 = (W0.alloc (.cells cs t)).heap.size := by simp
  rw [hsz]
  generalize W0.alloc (.cells cs t) = W
  refine (isOf_any ⟨nk, nsp, nm, av, da, sy, pa, fi, la, pr, ne, inn, att⟩ v [tmplB] (by simp) W.heap.size (tab_new W [tmplB] 9)).mono ?_
  rintro e w' ⟨rfl, hb⟩
  rw [hq.of]
  exact ⟨rfl, (below_new W _).trans (hb.mono (by simp))⟩
/-- A node in a block of its own, and what came behind it. -/
theorem node_box {w4 w5 : World} {cs : Array Value} {t : TypeId} (hb : Below (w4.alloc (.cells cs t)).heap.size (w4.alloc (.cells cs t)) w5) (j : Nat) (v : Value) (hv : cs[j]? = some v) : w5.cell? ⟨w4.heap.size, j, none⟩ = some v := by
  have h1 : w5.heap[w4.heap.size]? = some (.cells cs t (0, 0)) := (hb.block _ (by simp)).trans (heap_alloc_new w4 _)
  rw [cell_row _ _ _ _ _ _ h1, hv]
theorem spot_fin {w w5 : World} {b : Nat} {x y : Int} (hb : Below w.heap.size w w5) (hlt : w.heap.size ≤ b) (h : Box2 w5 b x y) (p q : Int) :
    Box2 ((w5.setCell ⟨b, 0, none⟩ (.int .i64 p)).setCell ⟨b, 1, none⟩ (.int .i64 q)) b p q ∧ Below w.heap.size w ((w5.setCell ⟨b, 0, none⟩ (.int .i64 p)).setCell ⟨b, 1, none⟩ (.int .i64 q)) :=
  ⟨two_block _ _ _ _ _ _ _ h, hb.trans (((Mod.setCell (F := fun k => k = b) w5 ⟨b, 0, none⟩ _ rfl).trans (Mod.setCell _ ⟨b, 1, none⟩ _ rfl)).below hb.size (fun k hk => by omega))⟩
/-- Two places in blocks of their own, and what came behind them. -/
theorem two_boxes {w w4 : World} {k q x y : Int} (hb : Below ((w.alloc (.cells #[.int .i64 k, .int .i64 q] 159)).alloc (.cells #[.int .i64 x, .int .i64 y] 159)).heap.size ((w.alloc (.cells #[.int .i64 k, .int .i64 q] 159)).alloc (.cells #[.int .i64 x, .int .i64 y] 159)) w4) :
    Box2 w4 w.heap.size k q ∧ Box2 w4 (w.heap.size + 1) x y ∧ Below w.heap.size w w4 := by
  have h1 : Box2 ((w.alloc (.cells #[.int .i64 k, .int .i64 q] 159)).alloc (.cells #[.int .i64 x, .int .i64 y] 159)) w.heap.size k q := (Box2.new w k q).alloc _
  have h2 : Box2 ((w.alloc (.cells #[.int .i64 k, .int .i64 q] 159)).alloc (.cells #[.int .i64 x, .int .i64 y] 159)) (w.heap.size + 1) x y := by
    have := Box2.new (w.alloc (.cells #[.int .i64 k, .int .i64 q] 159)) x y
    simpa using this
  refine ⟨h1.below hb, h2.below hb, ((below_new w _).alloc (by simp) _).trans (hb.mono (by simp; omega))⟩
/-- A place in a block of its own, made behind w. -/
structure Sp (w W : World) (b : Nat) (p q : Int) : Prop where
  bel : Below w.heap.size w W
  le : w.heap.size ≤ b
  box : Box2 W b p q
theorem Sp.new (w : World) (p q : Int) : Sp w (w.alloc (.cells #[.int .i64 p, .int .i64 q] 159)) w.heap.size p q := ⟨below_new w _, Nat.le_refl _, Box2.new w p q⟩
theorem Sp.more {w W W' : World} {b : Nat} {p q : Int} (h : Sp w W b p q) (hb : Below W.heap.size W W') : Sp w W' b p q := ⟨h.bel.trans (hb.mono h.bel.size), h.le, h.box.below hb⟩
theorem Sp.alloc {w W : World} {b : Nat} {p q : Int} (h : Sp w W b p q) (o : Obj) : Sp w (W.alloc o) b p q := h.more (below_new W o)
theorem Sp.put {w W : World} {b : Nat} {p q : Int} (h : Sp w W b p q) (x y : Int) : Sp w ((W.setCell ⟨b, 0, none⟩ (.int .i64 x)).setCell ⟨b, 1, none⟩ (.int .i64 y)) b x y :=
  have := spot_fin h.bel h.le h.box x y
  ⟨this.2, h.le, this.1⟩
theorem Sp.cells {w W : World} {b : Nat} {p q : Int} (h : Sp w W b p q) : W.cell? ⟨b, 0, none⟩ = some (.int .i64 p) ∧ W.cell? ⟨b, 1, none⟩ = some (.int .i64 q) ∧ W.frozen? ⟨b, 0, none⟩ = false ∧ W.frozen? ⟨b, 1, none⟩ = false := h.box.cells
set_option maxRecDepth 100000 in
theorem out_any (h : Env w wx obs) (hi : obs[i]? = some (aO _ bA os)) {k : Nat} {o : OneM} (ho : os[k]? = some o) (q : Int) :
    Calls Tryz.prog 167 #[.pointer (some ⟨bA, 0, none⟩), spotV k q] wx fun e w' => e = .returned (if isOfO o [tmplB] then spotV o.inner (-1) else spotV k q) ∧ Below wx.heap.size wx w' := by
  have hN := fun W (hW : Env w W obs) => anode_in hW hi ho
  have HN := hide hN
  have HE := hide h
  have HI := hide (fun (nk nsp : Int) (nm : ByteArray) (av : Value) (da sy : ByteArray) (pa fi la pr ne inn : Int) (att : List AttrM) (hq : NodeIs o ⟨nk, nsp, nm, av, da, sy, pa, fi, la, pr, ne, inn, att⟩) (v : Value) (W : World) (cs : Array Value) (t : TypeId) => isOf1 hq v W cs t)
  have HAT := hide (fun (W : World) (x : Int) => atEnd_any W x)
  clear h hi ho hN
  cases hc : isOfO o [tmplB] with
  | true =>
    rw [hc] at HI
    unfold tmplB nodeA at HI
    unfold spotV at HAT ⊢
    clear hc
    go_enter Tryz.func167, Tryz.ntmps167
    go_wp2_with (first
      | (go_at_call 14; refine ((unhide HN) _ ((unhide HE).more (two_boxes (Below.refl _ _)).2.2)).mono ?_; rintro e w4 ⟨n, ao, m, c, rfl, hn, hb4⟩; obtain ⟨b1, b2, b3⟩ := two_boxes hb4; have HB1 := hide b1; have HB2 := hide b2; have HB3 := hide b3; obtain ⟨nk, nsp, nm, av, da, sy, pa, fi, la, pr, ne, inn, att⟩ := n; have HIN := hide (show inn = o.inner from hn.same.inner); have HNI := hide hn; clear hn hb4 b1 b2 b3; simp only [nodeV, NodeM.cells])
      | (go_at_call 194; refine ((unhide HI) _ _ _ _ _ _ _ _ _ _ _ _ _ (unhide HNI) _ _ _ _).mono ?_; rintro e w5 ⟨rfl, hb5⟩; have hc11 := node_box hb5 11 (.int .i64 inn) rfl; have b3 := (unhide HB3).trans (((below_new _ _).trans (hb5.mono (by simp))).mono (unhide HB3).size); have HC1 := hide b3; have HC2 := hide ((unhide HB2).below ((below_new _ _).trans (hb5.mono (by simp)))); clear hb5 b3)
      | (go_at_call 164; refine ((unhide HAT) _ _).mono ?_; rintro e w6 ⟨rfl, hb6⟩; have HD1 := hide ((unhide HC1).trans (hb6.mono (unhide HC1).size)); have HD2 := hide ((unhide HC2).below hb6); obtain ⟨k0, k1, f0, f1⟩ := (unhide HD2).cells; clear hb6))
    obtain ⟨R1, R2⟩ := spot_fin (unhide HD1) (by omega) (unhide HD2) inn (-1)
    refine bodyPost_ret (spot_ret1 (p := 4) Tryz.results167 (b := wx.heap.size + 1) R1 _ rfl) rfl ⟨?_, R2⟩
    rw [← unhide HIN]
    rfl
  | false =>
    rw [hc] at HI
    unfold tmplB nodeA at HI
    unfold spotV at HAT ⊢
    clear hc
    go_enter Tryz.func167, Tryz.ntmps167
    go_wp2_with (first
      | (go_at_call 14; refine ((unhide HN) _ ((unhide HE).more (two_boxes (Below.refl _ _)).2.2)).mono ?_; rintro e w4 ⟨n, ao, m, c, rfl, hn, hb4⟩; obtain ⟨b1, b2, b3⟩ := two_boxes hb4; have HB1 := hide b1; have HB2 := hide b2; have HB3 := hide b3; obtain ⟨nk, nsp, nm, av, da, sy, pa, fi, la, pr, ne, inn, att⟩ := n; have HIN := hide (show inn = o.inner from hn.same.inner); have HNI := hide hn; clear hn hb4 b1 b2 b3; simp only [nodeV, NodeM.cells])
      | (go_at_call 194; refine ((unhide HI) _ _ _ _ _ _ _ _ _ _ _ _ _ (unhide HNI) _ _ _ _).mono ?_; rintro e w5 ⟨rfl, hb5⟩; have hc11 := node_box hb5 11 (.int .i64 inn) rfl; have b3 := (unhide HB3).trans (((below_new _ _).trans (hb5.mono (by simp))).mono (unhide HB3).size); have HC1 := hide b3; have HC2 := hide ((unhide HB2).below ((below_new _ _).trans (hb5.mono (by simp)))); have HC4 := hide ((unhide HB1).below ((below_new _ _).trans (hb5.mono (by simp)))); obtain ⟨k0, k1, f0, f1⟩ := (unhide HC2).cells; obtain ⟨l0, l1, m0, m1⟩ := (unhide HC4).cells; clear hb5 b3))
    obtain ⟨R1, R2⟩ := spot_fin (unhide HC1) (by omega) (unhide HC2) k q
    refine bodyPost_ret (spot_ret1 (p := 4) Tryz.results167 (b := wx.heap.size + 1) R1 _ rfl) rfl ⟨?_, R2⟩
    rfl
end
end Go.Proofs.YtkakncngkmoegaaGreat

namespace Go.Proofs.YtkakncngkmoegaaGreat
open Go.RowKit

section
variable {w wx : World} {obs : List (Ob w.heap.size)} {i j bA bR bK bW : Nat} {os : List OneM} {L : List Int}
set_option maxHeartbeats 1000000 in
set_option maxRecDepth 100000 in
theorem spot_plain (h : Env w wx obs) (hi : obs[i]? = some (aO _ bA os)) (hj : obs[j]? = some (stOb _ bK bA (keysO os) L)) (hij : i ≠ j) (hg : Good (keysO os) L) {k : Nat} {o : OneM} (ho : os[k]? = some o) :
    Calls Tryz.prog 132 #[.pointer (some ⟨bA, 0, none⟩), .pointer (some ⟨bK, 0, none⟩), .int .i64 k, .bool false] wx fun e w' => e = .returned (.tuple #[if isOfO o [tmplB] then spotV o.inner (-1) else spotV k (-1), .int .i64 0]) ∧ Env w w' obs := by
  have HE := hide h
  have HA := hide (fun W (hW : Env w W obs) => amadeA hW hi)
  have HS := hide (fun W (hW : Env w W obs) => amadeS hW hi hj hij hg)
  have HT := hide (fun W (hW : Env w W obs) ob x => athere1b hW hi ob x)
  have HO := hide (fun W (hW : Env w W obs) => out_any hW hi ho (-1))
  have HY := hide (hasO_of ho)
  have HAT := hide (fun (W : World) (x : Int) => atEnd_any W x)
  obtain ⟨sa, sb, hsp⟩ : ∃ sa sb, (if isOfO o [tmplB] then spotV o.inner (-1) else spotV k (-1)) = spotV sa sb := by
    split
    · exact ⟨_, _, rfl⟩
    · exact ⟨_, _, rfl⟩
  rw [hsp] at HO ⊢
  clear h hi hj hg ho hsp
  unfold spotV at HO HAT ⊢
  go_enter Tryz.func132, Tryz.ntmps132
  go_wp2_with (first
    | (go_at_call 161; refine ((unhide HA) _ ((unhide HE).more (below_new _ _))).mono ?_; rintro e w1 ⟨rfl, rfl⟩)
    | (go_at_call 162; refine ((unhide HS) _ ((unhide HE).more (below_new _ _))).mono ?_; rintro e w2 ⟨rfl, rfl⟩)
    | (go_at_call 163; refine ((unhide HT) _ (unhide HE) _ _).mono ?_; rintro e w3 ⟨rfl, rfl⟩; rw [unhide HY])
    | (go_at_call 164; refine ((unhide HAT) _ _).mono ?_; rintro e w4 ⟨rfl, hb4⟩; have HS4 := hide (((Sp.new wx 0 0).alloc _).more hb4); clear hb4)
    | (go_at_call 167; refine ((unhide HO) _ ((unhide HE).more ((unhide HS4).alloc _).bel)).mono ?_; rintro e w5 ⟨rfl, hb5⟩; have HS5 := hide (((unhide HS4).alloc _).more hb5); obtain ⟨k0, k1, f0, f1⟩ := (unhide HS5).cells; clear hb5))
  have R := (unhide HS5).put sa sb
  exact bodyPost_ret (spot_ret (p := 8) (u := 9) Tryz.results132 (b := wx.heap.size) R.box _ _ rfl rfl) rfl ⟨rfl, (unhide HE).more R.bel⟩
end
end Go.Proofs.YtkakncngkmoegaaGreat

namespace Go.Proofs.YtkakncngkmoegaaGreat
open Go.RowKit

section
variable {w wx : World} {obs : List (Ob w.heap.size)} {i j bA bR bK bW : Nat} {os : List OneM} {L : List Int}
set_option maxRecDepth 100000 in
theorem placeThere_end (h : Env w wx obs) (hi : obs[i]? = some (aO _ bA os)) (p : Int) :
    Calls Tryz.prog 196 #[.pointer (some ⟨bA, 0, none⟩), spotV p (-1)] wx fun e w' => e = .returned (.bool (hasO os p)) ∧ Below wx.heap.size wx w' := by
  have HE := hide h
  have HT := hide (fun W (hW : Env w W obs) ob x => athere1b hW hi ob x)
  clear h hi
  unfold spotV
  go_enter Tryz.func196, Tryz.ntmps196
  go_wp2_with (first
    | (go_at_call 163; refine ((unhide HT) _ (unhide HE) _ _).mono ?_; rintro e w3 ⟨rfl, rfl⟩))
  go_ret
  exact ⟨rfl, (below_new _ _).alloc (by simp) _⟩

set_option maxRecDepth 100000 in
theorem asItIs_end (h : Env w wx obs) (hi : obs[i]? = some (aO _ bA os)) (p : Int) :
    Calls Tryz.prog 197 #[.pointer (some ⟨bA, 0, none⟩), spotV p (-1)] wx fun e w' => e = .returned (spotV p (-1)) ∧ Below wx.heap.size wx w' := by
  have HE := hide h
  have HN := hide (fun W (hW : Env w W obs) => anode_no hW hi (k := -1) (by simp [hasO]))
  have HAT := hide (fun (W : World) (x : Int) => atEnd_any W x)
  unfold nodeZ at HN
  clear h hi
  unfold spotV at HAT ⊢
  go_enter Tryz.func197, Tryz.ntmps197
  go_wp2_with (first
    | (go_at_call 14; refine ((unhide HN) _ ((unhide HE).more (two_boxes (Below.refl _ _)).2.2)).mono ?_; rintro e w4 ⟨rfl, hb4⟩; obtain ⟨b1, b2, b3⟩ := two_boxes hb4; have HB1 := hide (Sp.mk b3 (Nat.le_refl _) b1); have HB2 := hide (show Sp wx w4 (wx.heap.size + 1) 0 0 from ⟨b3, Nat.le_succ _, b2⟩); clear hb4 b1 b2 b3; obtain ⟨l0, l1, m0, m1⟩ := (unhide HB1).cells; obtain ⟨z0, z1, z2, z3⟩ := ((unhide HB1).alloc (.cells #[.int .i64 0, .int .i64 0, .string ⟨#[]⟩, .slice none 0 0, .string ⟨#[]⟩, .string ⟨#[]⟩, .int .i64 0, .int .i64 0, .int .i64 0, .int .i64 0, .int .i64 0, .int .i64 0] 47)).cells)
    | (go_at_call 164; refine ((unhide HAT) _ _).mono ?_; rintro e w5 ⟨rfl, hb5⟩; have HS5 := hide (((unhide HB2).alloc _).more hb5); clear z0 z1 z2 z3 l0 l1 m0 m1; obtain ⟨k0, k1, f0, f1⟩ := (unhide HS5).cells; clear hb5))
  have R := (unhide HS5).put p (-1)
  exact bodyPost_ret (spot_ret1 (p := 4) Tryz.results197 (b := wx.heap.size + 1) R.box _ rfl) rfl ⟨rfl, R.bel⟩

theorem Env.poke2 (h : Env w wx obs) {K : Nat} {p q : Int} (hi : obs[i]? = some (blkOb _ K #[.int .i64 p, .int .i64 q] 159)) (x y : Int) :
    Env w ((wx.setCell ⟨K, 0, none⟩ (.int .i64 x)).setCell ⟨K, 1, none⟩ (.int .i64 y)) (obs.set i (blkOb _ K #[.int .i64 x, .int .i64 y] 159)) := by
  obtain ⟨F, ⟨hb, hblk, hF⟩, _, hk⟩ := h.upd hi
  exact hk _ (blkOb _ K _ _) F ⟨hb, two_block _ _ _ _ _ _ _ hblk, hF⟩ ((Mod.setCell (F := F) wx ⟨K, 0, none⟩ _ ((hF K).2 rfl)).trans (Mod.setCell _ ⟨K, 1, none⟩ _ ((hF K).2 rfl))) (fun k hk => .inl hk)

theorem put_take (obs : List (Ob w.heap.size)) (b : Ob w.heap.size) (hlt : i < obs.length) (x y : Ob w.heap.size) (z : Ob w.heap.size) : ((((obs ++ [b]).set i x).set obs.length z).set i y).take obs.length = obs.set i y := by
  refine List.ext_getElem? fun k => ?_
  rw [List.getElem?_take]
  by_cases hk : k < obs.length
  · rw [if_pos hk]
    simp only [List.getElem?_set, List.length_set, List.length_append, List.length_cons, List.length_nil]
    by_cases hik : i = k
    · subst hik
      simp [hlt, Nat.lt_succ_of_lt hlt]
    · rw [if_neg hik, if_neg (by omega), if_neg hik, if_neg hik, List.getElem?_append_left hk]
  · rw [if_neg hk]
    have : (obs.set i y)[k]? = none := by rw [List.getElem?_eq_none_iff]; simp; omega
    rw [this]

end
end Go.Proofs.YtkakncngkmoegaaGreat
