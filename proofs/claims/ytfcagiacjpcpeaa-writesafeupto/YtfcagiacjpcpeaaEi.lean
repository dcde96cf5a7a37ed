/-
  The law's undone: a text without its references; WriteSafe's walk.
-/
import Derived.Test.YtfcagiacjpcpeaaEh
namespace Go.Proofs.Ytfcagiacjpcpeaa
open Go.RowKit Go.Lib

def fromB : List ByteArray := [⟨#[38, 97, 109, 112, 59]⟩, ⟨#[38, 110, 98, 115, 112, 59]⟩, ⟨#[38, 113, 117, 111, 116, 59]⟩, ⟨#[38, 108, 116, 59]⟩, ⟨#[38, 103, 116, 59]⟩]
def toB : List ByteArray := [⟨#[38]⟩, ⟨#[194, 160]⟩, ⟨#[34]⟩, ⟨#[60]⟩, ⟨#[62]⟩]
theorem fromB_L : fromB.map (·.data.toList) = froms := rfl
theorem toB_L : toB.map (·.data.toList) = tos := rfl
theorem from_at {k : Nat} {f : ByteArray} (h : fromB[k]? = some f) : froms[k]? = some f.data.toList := by
  rw [← fromB_L, List.getElem?_map, h]; rfl
theorem to_at {k : Nat} {u : ByteArray} (h : toB[k]? = some u) : tos[k]? = some u.data.toList := by
  rw [← toB_L, List.getElem?_map, h]; rfl
theorem to_len {m : Nat} {u : List UInt8} (h : tos[m]? = some u) : u.length ≤ 2 := by
  have hm : m < 5 := (List.getElem?_eq_some_iff.1 h).1
  match m, hm with
  | 0, _ => cases h; decide
  | 1, _ => cases h; decide
  | 2, _ => cases h; decide
  | 3, _ => cases h; decide
  | 4, _ => cases h; decide

structure OutU (w1 wx : World) (v : Value) (out : List UInt8) : Prop where
  own : wx.ownsRow w1.heap.size 5 1 v (byteCells out).length (byteCells out)
  below : Below w1.heap.size w1 wx
theorem OutU.word {w1 wx w' : World} {v v' : Value} {out : List UInt8} {k : ByteArray} (h : OutU w1 wx v out) (hg : wx.grownBy w' v.ownBlock) (ho : w'.ownsRow w1.heap.size 5 1 v' ((byteCells out).length + k.size) (byteCells out ++ strCells k)) : OutU w1 w' v' (out ++ k.data.toList) := by
  refine ⟨?_, (h.below).trans ((Below.refl _ wx).grown hg h.below.size (fun q hq => (h.own.lt q hq).1))⟩
  rw [byteCells_append, List.length_append, byteCells_length k.data.toList, len_data]
  exact ho
theorem OutU.one {w1 wx w' : World} {v v' : Value} {out : List UInt8} {c : UInt8} {o : Obj} (h : OutU w1 wx v out) (hg : (wx.alloc o).grownBy w' v.ownBlock) (ho : w'.ownsRow w1.heap.size 5 1 v' ((byteCells out).length + 1) (byteCells out ++ [.int .u8 (c.toNat : Int)])) : OutU w1 w' v' (out ++ [c]) := by
  have hb1 : Below w1.heap.size w1 (wx.alloc o) := h.below.alloc h.below.size o
  refine ⟨?_, hb1.trans ((Below.refl _ _).grown hg hb1.size (fun q hq => (h.own.lt q hq).1))⟩
  rw [byteCells_append, List.length_append]
  exact ho

theorem ext_eq (x f : ByteArray) (i : Nat) (hge : i + f.size ≤ x.size) : (x.extract i (i + f.size)).size = f.size := by
  rw [ByteArray.size_extract]; omega
theorem fits_iff (x f : ByteArray) (i : Nat) : ((x.extract i (i + f.size)).toList == f.toList) = true ↔ fits x.data.toList i f.data.toList := by
  unfold fits
  rw [beq_iff_eq, toList_data, toList_data, extract_list, len_data, Nat.add_sub_cancel_left]
theorem fits_room (x f : ByteArray) (i : Nat) (hi : i ≤ x.size) (h : fits x.data.toList i f.data.toList) : i + f.size ≤ x.size := by
  have := congrArg List.length h
  rw [List.length_take, List.length_drop, len_data, len_data] at this
  omega

set_option maxHeartbeats 4000000 in
set_option maxRecDepth 10000 in
theorem undone_any (attr : Bool) (s x : ByteArray) (w : World) (hx : x.data.toList = escL attr s.data.toList) (hs : x.size ≤ 140737488355328) (hss : s.size ≤ 1000000000000) :
    Calls Try.prog 19 #[.string x] w fun e w' => e = .returned (.string s) ∧ Below w.heap.size w w' := by
  obtain ⟨i0, hi, hz0, hz1, hz2⟩ := info_parts info5
  have hxz : (x.size : Int) ≤ 140737488355328 := by omega
  have HX := hide hx
  have HSS := hide hss
  obtain ⟨w1, hw1⟩ : ∃ w1, (w.alloc (.cells (sRow fromB) 9)).alloc (.cells (sRow toB) 9) = w1 := ⟨_, rfl⟩
  have hT1 : TabAt w1 w.heap.size fromB := by
    rw [← hw1]
    have h0 := tab_new w fromB 9
    exact ⟨fun j t ht => (World.cell?_alloc_past _ _ _ h0.lt).trans (h0.cells j t ht), by simp; omega⟩
  have hT2 : TabAt w1 (w.heap.size + 1) toB := by
    have h0 := tab_new (w.alloc (.cells (sRow fromB) 9)) toB 9
    rw [hw1] at h0
    simpa using h0
  have hsz1 : w1.heap.size = w.heap.size + 2 := by rw [← hw1]; simp
  have HB1 : Hid (Below w.heap.size w w1) := hide (by rw [← hw1]; exact (below_new w _).alloc (by simp) _)
  have HT1 := hide hT1
  have HT2 := hide hT2
  have HSZ1 := hide hsz1
  have HW1 : Hid (_ = w1) := hide hw1
  clear hx hs hss hT1 hT2 hsz1 hw1
  go_enter Try.func19, Try.ntmps19
  go_wp2
  go_loopg [5, 6, 7, 8] x.size (fun g s5 s6 _ _ wx => ∃ (i p : Nat), s6 = .int .i64 i ∧ i + g = x.size ∧ UndAt attr x.data.toList s.data.toList i p ∧ OutU w1 wx s5 (s.data.toList.take p))
  case atStart => exact ⟨0, 0, rfl, by omega, by rw [unhide HX]; exact UndAt.start attr _, by rw [← unhide HW1]; exact ⟨World.ownsRow_nil _ _ _ _, Below.refl _ _⟩⟩
  case round =>
    obtain ⟨i, p, rfl, hig, hu, ho⟩ := hrel
    clear HW1
    have HU := hide hu
    have HO := hide ho
    clear hu ho
    by_cases hj : i < x.size
    · have hjz : (i : Int) < (x.size : Int) := by omega
      have hjl : i < x.data.toList.length := by rw [len_data]; exact hj
      go_wp2
      obtain ⟨gO, rfl⟩ : ∃ g, g = gk := ⟨_, rfl⟩
      have hpl : p ≤ s.size := by have := (unhide HU).le; rw [len_data] at this; exact this
      have hol : (byteCells (s.data.toList.take p)).length ≤ 1000000000000 := by rw [byteCells_length, List.length_take]; have := unhide HSS; omega
      go_loopg [5, 7, 8] 5 (fun g s5 s7 s8 wx => ∃ k : Nat, s8 = .int .i64 k ∧ k ≤ 5 ∧ ((s7 = .int .i64 0 ∧ k + g = 5 ∧ OutU w1 wx s5 (s.data.toList.take p) ∧ ∀ (m : Nat) f, m < k → froms[m]? = some f → ¬ fits x.data.toList i f) ∨ (∃ (m : Nat) (f : ByteArray) (u : List UInt8), s7 = .int .i64 f.size ∧ froms[m]? = some f.data.toList ∧ tos[m]? = some u ∧ fits x.data.toList i f.data.toList ∧ OutU w1 wx s5 (s.data.toList.take p ++ u))))
      case atStart => exact ⟨0, rfl, by omega, .inl ⟨rfl, rfl, unhide HO, fun m f hm => by omega⟩⟩
      case round =>
        obtain ⟨k, rfl, hk5, hcase⟩ := hrel
        rcases hcase with ⟨rfl, hkg, ho, hno⟩ | ⟨m, f, u, rfl, hf, hu, hfit, hout⟩
        · have HNO := hide hno
          have HO := hide ho
          have HOn : Hid (∀ n, OutU w1 (wr.drewN n) u5 (s.data.toList.take p)) := hide (fun n => ⟨ho.own, below_dn ho.below n⟩)
          clear hno ho
          by_cases hk : k < 5
          · have hkz : (k : Int) < 5 := by omega
            obtain ⟨f, hf⟩ : ∃ f, fromB[k]? = some f := ⟨_, List.getElem?_eq_getElem (by exact hk)⟩
            obtain ⟨u, hu⟩ : ∃ u, toB[k]? = some u := ⟨_, List.getElem?_eq_getElem (by exact hk)⟩
            have cF := ((unhide HO).below.cell (p := ⟨w.heap.size, k, none⟩) (by rw [unhide HSZ1]; show w.heap.size < _; omega)).trans ((unhide HT1).cells k f hf)
            have cT := ((unhide HO).below.cell (p := ⟨w.heap.size + 1, k, none⟩) (by rw [unhide HSZ1]; show w.heap.size + 1 < _; omega)).trans ((unhide HT2).cells k u hu)
            have hfr := from_at hf
            have hto := to_at hu
            have hfl := from_len hfr
            rw [len_data] at hfl
            have hfz : (f.size : Int) ≤ 6 := by omega
            have hfz0 : (0 : Int) ≤ (f.size : Int) := by omega
            have HFR := hide hfr
            have HTO := hide hto
            have htl := to_len hto
            rw [len_data] at htl
            have HF := hide hf
            have hr1 : (byteCells (s.data.toList.take p)).length + u.size ≤ 140737488355328 := by omega
            clear hf hu hfr hto
            by_cases hge : i + f.size ≤ x.size
            · have hgz : (f.size : Int) ≤ (x.size : Int) - (i : Int) := by omega
              have hgz2 : (i : Int) + (f.size : Int) ≤ (x.size : Int) := by omega
              have hle2 : (i : Int) ≤ (i : Int) + (f.size : Int) := by omega
              cases hq : ((x.extract i (i + f.size)).toList == f.toList) with
              | true =>
                have HFIT := hide ((fits_iff x f i).1 hq)
                go_wp2
                go_quiet (fail)
                go_wp2_with (at_builtin; refine Lib.wpList_append_own_string _ rfl _ _ 39 9 rfl w1.heap.size 5 i0 Try.underlying39 Try.underlying9 hi hz0 hz1 hz2 u5 _ _ rfl (unhide HOn _).own u rfl (by unfold maxLen; omega) hr1 (unhide HOn _).below.size ?_; intro v' w2 ho2 hg2 _; have hO2 := (unhide HOn _).word hg2 ho2; have cF2 := (hO2.below.cell (p := ⟨w.heap.size, k, none⟩) (by rw [unhide HSZ1]; show w.heap.size < _; omega)).trans ((unhide HT1).cells k f (unhide HF)); have HO2 := hide hO2; clear ho2 hg2 hO2)
                go_roundg (gk - 1)
                case measure => omega
                case rel => exact ⟨k + 1, by go_num, by omega, .inr ⟨k, f, u.data.toList, rfl, unhide HFR, unhide HTO, unhide HFIT, unhide HO2⟩⟩
              | false =>
                have HFIT : Hid (¬ fits x.data.toList i f.data.toList) := hide (fun h => by have := (fits_iff x f i).2 h; rw [hq] at this; cases this)
                go_wp2
                go_quiet (fail)
                go_wp2
                go_roundg (gk - 1)
                case measure => omega
                case rel => exact ⟨k + 1, by go_num, by omega, .inl ⟨rfl, by omega, unhide HOn _, fun m f' hm hf' => by
                  by_cases e : m = k
                  · subst e; rw [unhide HFR] at hf'; cases hf'; exact unhide HFIT
                  · exact (unhide HNO) m f' (by omega) hf'⟩⟩
            · have hgz : ¬ (f.size : Int) ≤ (x.size : Int) - (i : Int) := by omega
              have hdc : decide ((f.size : Int) ≤ (x.size : Int) - (i : Int)) = false := decide_eq_false hgz
              have hwr : IntKind.i64.wrap ((x.size : Int) - (i : Int)) = (x.size : Int) - (i : Int) := by rw [IntKind.wrap_i64]; omega
              have HFIT : Hid (¬ fits x.data.toList i f.data.toList) := hide (fun h => hge (fits_room x f i (Nat.le_of_lt hj) h))
              go_wp2
              go_quiet (fail)
              go_wp2
              go_roundg (gk - 1)
              case measure => omega
              case rel => exact ⟨k + 1, by go_num, by omega, .inl ⟨rfl, by omega, unhide HOn _, fun m f' hm hf' => by
                by_cases e : m = k
                · subst e; rw [unhide HFR] at hf'; cases hf'; exact unhide HFIT
                · exact (unhide HNO) m f' (by omega) hf'⟩⟩
          · obtain rfl : k = 5 := by omega
            obtain ⟨h1, h2⟩ := (unhide HU).plain hjl (fun m f hf => (unhide HNO) m f (from_five hf) hf)
            have hdat := data_at x i hj
            obtain ⟨c, hc⟩ : ∃ c : UInt8, x[i]'hj = c := ⟨_, rfl⟩
            rw [hc] at hdat
            rw [hdat] at h2
            have hc0 : (0 : Int) ≤ (c.toNat : Int) := by omega
            have hc1 : (c.toNat : Int) ≤ 255 := by have := c.toNat_lt; omega
            have htk : s.data.toList.take p ++ [c] = s.data.toList.take (p + 1) := by
              rw [List.take_add_one, ← h2]; rfl
            have HO1 := hide ((unhide HO).own.alloc (.cells #[.int .u8 (c.toNat : Int)] 5))
            have HW : Hid (∀ w2 v', (wr.alloc (.cells #[.int .u8 (c.toNat : Int)] 5)).grownBy w2 u5.ownBlock → w2.ownsRow w1.heap.size 5 1 v' ((byteCells (s.data.toList.take p)).length + 1) (byteCells (s.data.toList.take p) ++ [.int .u8 (c.toNat : Int)]) → OutU w1 w2 v' (s.data.toList.take (p + 1))) := hide (fun w2 v' hg ho => by rw [← htk]; exact (unhide HO).one hg ho)
            have hroom : (byteCells (s.data.toList.take p)).length + 1 ≤ 140737488355328 := by omega
            have hbs : w1.heap.size ≤ (wr.alloc (.cells #[.int .u8 (c.toNat : Int)] 5)).heap.size := by have := (unhide HO).below.size; simp; omega
            have H1 := hide h1
            clear h1 h2 hdat htk
            go_wp2_with (at_builtin; refine wpList_append_own _ rfl _ _ 39 rfl w1.heap.size 5 i0 _ 1 1 Try.underlying39 hi hz0 hz1 hz2 rfl (by omega) u5 _ _ rfl (unhide HO1) ⟨wr.heap.size, 0, none⟩ 1 1 [.int .u8 (c.toNat : Int)] rfl rfl (one_news wr (c.toNat : Int)) (by intro u hu; simp at hu; subst hu; rfl) (by unfold maxLen; omega) (by omega) hbs ?_; intro v' w2 ho2 hg2 _; have HO2 := hide ((unhide HW) w2 v' hg2 ho2); clear ho2 hg2)
            go_roundg (gO - 1)
            case measure => omega
            case rel => exact ⟨i + 1, p + 1, by go_num, by omega, unhide H1, unhide HO2⟩
        · have hfl := from_len hf
          rw [len_data] at hfl
          have hrm := fits_room x f i (Nat.le_of_lt hj) hfit
          have hfz : (f.size : Int) ≤ 6 := by omega
          have hfz0 : ((f.size : Int) == 0) = false := by rw [beq_eq_false_iff_ne]; omega
          have hfz1 : (0 : Int) ≤ (f.size : Int) := by omega
          obtain ⟨q, h1, h2⟩ := (unhide HU).word hjl hf hu hfit
          rw [← h2] at hout
          rw [len_data] at h1
          have H1 := hide h1
          have HO2 := hide hout
          clear hout hf hu hfit h1 h2
          by_cases hk : k < 5
          · have hkz : (k : Int) < 5 := by omega
            go_wp2
            go_roundg (gO - f.size)
            case measure => omega
            case rel => exact ⟨i + f.size, p + q, by push_cast; rfl, by omega, unhide H1, unhide HO2⟩
          · have hkz : ¬ (k : Int) < 5 := by omega
            go_wp2
            go_roundg (gO - f.size)
            case measure => omega
            case rel => exact ⟨i + f.size, p + q, by push_cast; rfl, by omega, unhide H1, unhide HO2⟩
    · have hjz : ¬ (i : Int) < (x.size : Int) := by omega
      obtain rfl : i = x.size := by omega
      have hfin : s.data.toList.take p = s.data.toList := by
        have h := unhide HU
        rw [← len_data x] at h
        exact h.done
      have hbk := conv_back (unhide HO).own
      rw [hfin] at hbk
      have hbk' : (convert 39 9 u5).run Try.prog wr = .ok (.string s) wr := hbk
      have HOB := hide ((unhide HB1).trans ((unhide HO).below.mono (by rw [unhide HSZ1]; omega)))
      clear HO hfin hbk
      go_wp2
      go_ret
      exact ⟨rfl, unhide HOB⟩

set_option maxHeartbeats 4000000 in
theorem safe_walk (s : ByteArray) (w : World) (hs : s.size ≤ 1048576) : Calls Try.prog 6 #[.string s] w fun e w' => e = .returned (.bool true) ∧ Below w.heap.size w w' := by
  have H1 := hide (fun W => escapeP_any s false W (by omega))
  have H2 := hide (fun W => escapeP_any s true W (by omega))
  have hlf := esc_len false _ s.data.toList (Nat.le_refl _)
  have hlt := esc_len true _ s.data.toList (Nat.le_refl _)
  rw [len_data] at hlf hlt
  have hxd : (escS false s).data.toList = escL false s.data.toList := by unfold escS; simp
  have hyd : (escS true s).data.toList = escL true s.data.toList := by unfold escS; simp
  have hxn : (escS false s).size ≤ 6 * s.size := by rw [← len_data, hxd]; exact hlf
  have hyn : (escS true s).size ≤ 6 * s.size := by rw [← len_data, hyd]; exact hlt
  have H3 := hide (fun W => undone_any false s (escS false s) W hxd (by omega) (by omega))
  have H4 := hide (fun W => undone_any true s (escS true s) W hyd (by omega) (by omega))
  have HN := hide (esc_no s.data.toList)
  have HQ := hide (esc_nq s.data.toList)
  generalize escS false s = x at H1 H3 hxd hxn
  generalize escS true s = y at H2 H4 hyd hyn
  rw [← hxd] at HN
  rw [← hyd] at HQ
  have hxz : (x.size : Int) ≤ 140737488355328 := by omega
  have hyz : (y.size : Int) ≤ 140737488355328 := by omega
  clear hs hlf hlt hxd hyd hxn hyn
  go_enter Try.func6, Try.ntmps6
  go_wp2_with (first
    | (go_at_call 17; have _x := unhide HB1; refine (unhide H2 _).mono ?_; rintro e w2 ⟨rfl, hb2⟩; have HB2 := hide ((unhide HB1).trans (hb2.mono (unhide HB1).size)); clear hb2 _x)
    | (go_at_call 17; refine (unhide H1 _).mono ?_; rintro e w1 ⟨rfl, hb1⟩; have HB1 := hide hb1; clear hb1))
  go_loopg [5] x.size (fun k s5 wx => ∃ i : Nat, s5 = .int .i64 i ∧ i + k = x.size ∧ wx = w2)
  case atStart => exact ⟨0, rfl, by omega, rfl⟩
  case round =>
    obtain ⟨i, rfl, hik, rfl⟩ := hrel
    by_cases hj : i < x.size
    · have hjz : (i : Int) < (x.size : Int) := by omega
      have hdat := data_at x i hj
      obtain ⟨c, hc⟩ : ∃ c : UInt8, x[i]'hj = c := ⟨_, rfl⟩
      rw [hc] at hdat
      have hno := (unhide HN) c (List.mem_of_getElem? hdat)
      have hc0 : (0 : Int) ≤ (c.toNat : Int) := by omega
      have hc1 : (c.toNat : Int) ≤ 255 := by have := c.toNat_lt; omega
      have q60 : ((c.toNat : Int) == 60) = false := by
        rw [beq_eq_false_iff_ne]; intro e; apply hno.1; apply UInt8.toNat_inj.1; have : (60 : UInt8).toNat = 60 := rfl; omega
      have q62 : ((c.toNat : Int) == 62) = false := by
        rw [beq_eq_false_iff_ne]; intro e; apply hno.2; apply UInt8.toNat_inj.1; have : (62 : UInt8).toNat = 62 := rfl; omega
      clear hno hdat
      go_wp2
      go_roundg (gk - 1)
      case measure => omega
      case rel => exact ⟨i + 1, by go_num, by omega, rfl⟩
    · have hjz : ¬ (i : Int) < (x.size : Int) := by omega
      go_wp2
      go_loopg [6] y.size (fun k s6 wx => ∃ i : Nat, s6 = .int .i64 i ∧ i + k = y.size ∧ wx = wr)
      case atStart => exact ⟨0, rfl, by omega, rfl⟩
      case round =>
        obtain ⟨i, rfl, hik, rfl⟩ := hrel
        by_cases hj : i < y.size
        · have hjz : (i : Int) < (y.size : Int) := by omega
          have hdat := data_at y i hj
          obtain ⟨c, hc⟩ : ∃ c : UInt8, y[i]'hj = c := ⟨_, rfl⟩
          rw [hc] at hdat
          have hno := (unhide HQ) c (List.mem_of_getElem? hdat)
          have hc0 : (0 : Int) ≤ (c.toNat : Int) := by omega
          have hc1 : (c.toNat : Int) ≤ 255 := by have := c.toNat_lt; omega
          have q34 : ((c.toNat : Int) == 34) = false := by
            rw [beq_eq_false_iff_ne]; intro e; apply hno; apply UInt8.toNat_inj.1; have : (34 : UInt8).toNat = 34 := rfl; omega
          clear hno hdat
          go_wp2
          go_roundg (gk - 1)
          case measure => omega
          case rel => exact ⟨i + 1, by go_num, by omega, rfl⟩
        · have hjz : ¬ (i : Int) < (y.size : Int) := by omega
          go_wp2_with (first
            | (go_at_call 19; have _x := unhide HB3; refine (unhide H4 _).mono ?_; rintro e w4 ⟨rfl, hb4⟩; have HB4 := hide ((unhide HB3).trans (hb4.mono (unhide HB3).size)); clear hb4 _x)
            | (go_at_call 19; refine (unhide H3 _).mono ?_; rintro e w3 ⟨rfl, hb3⟩; have HB3 := hide ((unhide HB2).trans (hb3.mono (unhide HB2).size)); clear hb3)
            | (go_at_call 12; refine (awake_any _).mono ?_; rintro e w5 ⟨rfl, hb5⟩; have HB5 := hide ((unhide HB4).trans (hb5.mono (unhide HB4).size)); clear hb5))
          go_ret
          exact ⟨rfl, unhide HB5⟩
end Go.Proofs.Ytfcagiacjpcpeaa
