/-
  The walk of SniffMeta.
-/
import Derived.Test.YtmikcdmlhocgbaaDoorTo
import Derived.Test.YtmikcdmlhocgbaaDoorTk
import Derived.Lib.AppendStr
namespace Go.Proofs.YtmikcdmlhocgbaaDoor
open Go.RowKit Go.Lib

abbrev row7 : Array Value := #[.string ⟨#[117, 116, 102, 45, 56]⟩, .string ⟨#[117, 116, 102, 45, 49, 54, 108, 101]⟩, .string ⟨#[117, 116, 102, 45, 49, 54, 98, 101]⟩, .string ⟨#[119, 105, 110, 100, 111, 119, 115, 45, 49, 50, 53, 50]⟩, .string ⟨#[105, 115, 111, 45, 56, 56, 53, 57, 45, 49, 53]⟩, .string ⟨#[105, 115, 111, 45, 56, 56, 53, 57, 45, 53]⟩, .string ⟨#[120, 45, 117, 115, 101, 114, 45, 100, 101, 102, 105, 110, 101, 100]⟩]
abbrev row3 : Array Value := #[.string ⟨#[]⟩, .string ⟨#[34]⟩, .string ⟨#[39]⟩]
theorem own_ge {w : World} {k n : Nat} {v : Value} {xs : List Value} (ho : w.ownsRow k 5 1 v n xs) {j : Nat} (hj : v.ownBlock = some j) : k ≤ j ∧ j < w.heap.size := by
  rcases ho.2 with ⟨h', _⟩ | ⟨g1, cap1, cur, h', hkg, hb1, _⟩
  · rw [h'] at hj; cases hj
  · rw [h'] at hj
    simp [Value.ownBlock] at hj
    subst hj
    exact ⟨hkg, lt_of_block hb1⟩
theorem own_some {w : World} {k : Nat} {v : Value} {l : List UInt8} (ho : w.ownsRow k 5 1 v l.length (bytesV l)) (h0 : 0 < l.length) : ∃ g c, v = .slice (some ⟨g, 0, none⟩) l.length c ∧ BytesIn w (some ⟨g, 0, none⟩) l ∧ l.length ≤ c := by
  rcases ho.2 with ⟨_, h'⟩ | ⟨g1, cap1, cur, h', _⟩
  · omega
  · refine ⟨g1, cap1, h', ?_⟩
    rw [h'] at ho
    exact ⟨(own_bytes ho).1, (own_bytes ho).2.1⟩
theorem strC (s : ByteArray) : strCells s = bytesV s.data.toList := rfl
theorem below_own {w w0 w' : World} {k n : Nat} {v : Value} {xs : List Value} (hb : Below w.heap.size w w0) (ho : w0.ownsRow k 5 1 v n xs) (hk : w.heap.size ≤ k) (hg : w0.grownBy w' v.ownBlock) : Below w.heap.size w w' :=
  hb.grown hg hb.size (fun _ hj => Nat.le_trans hk (own_ge ho hj).1)

structure MetaB (w wx : World) (v : Value) (F : List UInt8) : Prop where
  own : wx.ownsRow w.heap.size 5 1 v F.length (bytesV F)
  below : Below w.heap.size w wx
  none : ∀ c ∈ F, c ≠ 60


theorem ba_app (x y : ByteArray) : (x ++ y).data.toList = x.data.toList ++ y.data.toList := by simp
theorem row3_cell (wr : World) (r : Nat) (hr : r < 3) (QB : ByteArray) (hQ : QB.data.toList = quL r) : ((wr.alloc (.cells row7 9)).alloc (.cells row3 9)).cell? ⟨wr.heap.size + 1, r, none⟩ = some (.string QB) := by
  have hb : ((wr.alloc (.cells row7 9)).alloc (.cells row3 9)).heap[wr.heap.size + 1]? = some (.cells row3 9 (0, 0)) := by
    have := heap_alloc_new (wr.alloc (.cells row7 9)) (.cells row3 9)
    rwa [World.size_alloc] at this
  have e : QB = ⟨(quL r).toArray⟩ := by
    obtain ⟨d⟩ := QB
    simp only at hQ
    rw [← hQ]
  rw [cell_of_row _ _ r _ _ _ hb, e]
  rcases (by omega : r = 0 ∨ r = 1 ∨ r = 2) with rfl | rfl | rfl <;> rfl
theorem row7_cell (wr w2 : World) (v : Value) (hv : some wr.heap.size ≠ v.ownBlock) (hg : ((wr.alloc (.cells row7 9)).alloc (.cells row3 9)).grownBy w2 v.ownBlock) : ∀ (n : Nat) (x : ByteArray), row7[n]? = some (.string x) → w2.cell? ⟨wr.heap.size, n, none⟩ = some (.string x) := by
  intro n x hn
  have hb : w2.heap[wr.heap.size]? = some (.cells row7 9 (0, 0)) := (hg.block wr.heap.size (by simp only [World.size_alloc]; omega) hv).trans ((Below.heap_alloc _ _ _ (by simp)).trans (heap_alloc_new wr _))
  rw [cell_of_row _ _ n _ _ _ hb]
  exact hn
theorem ahead_room {F : List UInt8} (h : F.length ≤ 500) : F.length + (⟨#[60, 109, 101, 116, 97, 32, 99, 104, 97, 114, 115, 101, 116, 61]⟩ : ByteArray).size ≤ maxLen ∧ F.length + (⟨#[60, 109, 101, 116, 97, 32, 99, 104, 97, 114, 115, 101, 116, 61]⟩ : ByteArray).size ≤ 140737488355328 := by
  have : (⟨#[60, 109, 101, 116, 97, 32, 99, 104, 97, 114, 115, 101, 116, 61]⟩ : ByteArray).size = 14 := rfl
  rw [this]
  unfold maxLen
  omega
theorem own_ahead {w2 : World} {k : Nat} {v : Value} {F : List UInt8} (ho : w2.ownsRow k 5 1 v (F.length + (⟨#[60, 109, 101, 116, 97, 32, 99, 104, 97, 114, 115, 101, 116, 61]⟩ : ByteArray).size) (bytesV F ++ strCells ⟨#[60, 109, 101, 116, 97, 32, 99, 104, 97, 114, 115, 101, 116, 61]⟩)) : w2.ownsRow k 5 1 v (F ++ aheadL).length (bytesV (F ++ aheadL)) := by
  rw [List.length_append, bytesV_app]
  exact ho
theorem qu_len (r : Nat) : (quL r).length ≤ 1 := by unfold quL; split <;> decide
theorem nm_len (n : Nat) : (nmL n).length ≤ 14 := by unfold nmL; split <;> decide
theorem name_size {r n : Nat} {QB NMB : ByteArray} (hR : r < 3 ∧ QB.data.toList = quL r) (hN : NMB.data.toList = nmL n) : (QB ++ NMB ++ QB).size = (quL r ++ nmL n ++ quL r).length ∧ (QB ++ NMB ++ QB).data.toList = quL r ++ nmL n ++ quL r := by
  have h : (QB ++ NMB ++ QB).data.toList = quL r ++ nmL n ++ quL r := by rw [ba_app, ba_app, hR.2, hN]
  exact ⟨by rw [← len_data, h], h⟩

theorem name_room0 {F : List UInt8} {r : Nat} {QB : ByteArray} (h : F.length ≤ 500) (hR : r < 3 ∧ QB.data.toList = quL r) : (F ++ aheadL).length + (QB ++ ⟨#[117, 116, 102, 45, 56]⟩ ++ QB).size ≤ maxLen ∧ (F ++ aheadL).length + (QB ++ ⟨#[117, 116, 102, 45, 56]⟩ ++ QB).size ≤ 140737488355328 := by
  have h1 := (name_size (n := 0) (NMB := ⟨#[117, 116, 102, 45, 56]⟩) hR rfl).1
  have h2 := qu_len r
  have h3 := nm_len 0
  have h4 : aheadL.length = 14 := rfl
  rw [h1]
  simp only [List.length_append, h4]
  unfold maxLen
  omega
theorem own_name0 {w3 : World} {k r : Nat} {v : Value} {F : List UInt8} {QB : ByteArray} (ho : w3.ownsRow k 5 1 v ((F ++ aheadL).length + (QB ++ ⟨#[117, 116, 102, 45, 56]⟩ ++ QB).size) (bytesV (F ++ aheadL) ++ strCells (QB ++ ⟨#[117, 116, 102, 45, 56]⟩ ++ QB))) (hR : r < 3 ∧ QB.data.toList = quL r) : w3.ownsRow k 5 1 v (F ++ aheadL ++ (quL r ++ nmL 0 ++ quL r)).length (bytesV (F ++ aheadL ++ (quL r ++ nmL 0 ++ quL r))) := by
  have h1 := name_size (n := 0) (NMB := ⟨#[117, 116, 102, 45, 56]⟩) hR rfl
  rw [strC, h1.1, h1.2, ← bytesV_app] at ho
  rw [List.length_append]
  exact ho
theorem end_room0 {F : List UInt8} {r : Nat} (h : F.length ≤ 500) : (F ++ aheadL ++ (quL r ++ nmL 0 ++ quL r)).length + (⟨#[32, 62]⟩ : ByteArray).size ≤ maxLen ∧ (F ++ aheadL ++ (quL r ++ nmL 0 ++ quL r)).length + (⟨#[32, 62]⟩ : ByteArray).size ≤ 140737488355328 := by
  have h2 := qu_len r
  have h3 := nm_len 0
  have h4 : aheadL.length = 14 := rfl
  have h5 : (⟨#[32, 62]⟩ : ByteArray).size = 2 := rfl
  rw [h5]
  simp only [List.length_append, h4]
  unfold maxLen
  omega
theorem own_end0 {w4 : World} {k r : Nat} {v : Value} {F : List UInt8} (ho : w4.ownsRow k 5 1 v ((F ++ aheadL ++ (quL r ++ nmL 0 ++ quL r)).length + (⟨#[32, 62]⟩ : ByteArray).size) (bytesV (F ++ aheadL ++ (quL r ++ nmL 0 ++ quL r)) ++ strCells ⟨#[32, 62]⟩)) (hF : F.length ≤ 500) (hn : ∀ c ∈ F, c ≠ 60) (hr : r < 3) :
    ∃ g c N, v = .slice (some ⟨g, 0, none⟩) N c ∧ Calls Tryd.prog 13 #[.slice (some ⟨g, 0, none⟩) N c] w4 fun e w' => e = .returned (.tuple #[.int .i64 0, .int .i64 0]) ∧ Below w4.heap.size w4 w' := by
  have e1 : F ++ aheadL ++ (quL r ++ nmL 0 ++ quL r) ++ endL = F ++ sufL 0 r := by unfold sufL; simp only [List.append_assoc]
  have ho2 : w4.ownsRow k 5 1 v (F ++ sufL 0 r).length (bytesV (F ++ sufL 0 r)) := by
    rw [← e1, List.length_append, bytesV_app (F ++ aheadL ++ (quL r ++ nmL 0 ++ quL r))]
    exact ho
  obtain ⟨g, c, hv, hby, hc⟩ := own_some ho2 (by rw [List.length_append]; have := (suf_all 0 (by decide) r hr).2.1.2; omega)
  have hp := prescan_any w4 (some ⟨g, 0, none⟩) c (F ++ sufL 0 r) hby hc
  rw [meta_tells F hn hF 0 r (by decide) hr] at hp
  exact ⟨g, c, _, hv, hp⟩

set_option maxRecDepth 8000 in
set_option maxHeartbeats 1000000 in
theorem meta_walk0 (a : Option Addr) (cap : Nat) (l : List UInt8) (w : World) (hb : BytesIn w a l) (hm : l.length ≤ 140737488351232) (e q : UInt8) (r : Nat) (hr : r < 3) (QB : ByteArray) (hQB : QB.data.toList = quL r) (hq3 : Int.tmod (q.toNat : Int) 3 = (r : Int)) (hq7 : Int.tmod (e.toNat : Int) 7 = 0) :
    Calls Tryd.prog 9 #[.slice a l.length cap, .int .u8 (e.toNat : Int), .int .u8 (q.toNat : Int)] w fun e w' => e = .returned (.bool true) ∧ Below w.heap.size w w' := by
  have HBY := hide hb
  have HM := hide hm
  have HR := hide (And.intro hr hQB)
  clear hb hm hr hQB
  obtain ⟨i0, hi, hz0, hz1, hz2⟩ := info_parts info5
  go_enter Tryd.func9, Tryd.ntmps9
  go_wp2_with fail
  go_loopg [7, 8] (min l.length 500) (fun gx s7 s8 wx => ∃ (i : Nat) (F : List UInt8), s8 = .int .i64 i ∧ i + gx = min l.length 500 ∧ F.length = i ∧ MetaB w wx s7 F)
  case atStart => exact ⟨0, [], rfl, by omega, rfl, ⟨World.ownsRow_nil _ _ _ _, Below.refl _ _, fun c hc => by cases hc⟩⟩
  case round =>
    obtain ⟨i, F, rfl, hig, hFl, hMB⟩ := hrel
    by_cases hin : i < min l.length 500
    · have hiz : (i : Int) < (l.length : Int) := by omega
      have hi5 : (i : Int) < 500 := by omega
      have hil : i < l.length := by omega
      have hw1 : IntKind.i64.wrap ((i : Int) + 1) = (i : Int) + 1 := wrap_add i 1 (by omega) (by omega)
      obtain ⟨b, off, rfl, hc⟩ := ((unhide HBY).below hMB.below).cells i l[i] (List.getElem?_eq_getElem hil)
      have HMB := hide hMB
      have HIN := hide (And.intro hin (And.intro hig hFl))
      have HALL := hide (fun (x : UInt8) => (hMB.own.alloc (.cells #[.int .u8 (x.toNat : Int)] 5)))
      have HSZ := hide (fun (x : UInt8) => (show w.heap.size ≤ (wr.alloc (.cells #[.int .u8 (x.toNat : Int)] 5)).heap.size by have := hMB.below.size; simp; omega))
      have HBA := hide (fun (x : UInt8) => hMB.below.alloc hMB.below.size (.cells #[.int .u8 (x.toNat : Int)] 5))
      have HNW := hide (fun (x : UInt8) => news_of (l := [x]) (bytes_new wr [x] (0, 0)) wr.heap.size 0 rfl)
      clear hMB hin hig
      by_cases h60 : l[i] = 60
      · have hq : ((l[i].toNat : Int) == 60) = true := by rw [h60]; rfl
        generalize l[i] = c at hc hq
        clear h60 hil
        have h120 : ((120 : UInt8).toNat : Int) = 120 := rfl
        have HA1 := hide ((unhide HALL) 120)
        have HS1 := hide ((unhide HSZ) 120)
        have HB1 := hide ((unhide HBA) 120)
        rw [h120] at HA1 HS1 HB1
        have HN1 : Hid (∀ j u, ([.int .u8 120] : List Value)[j]? = some u → (wr.alloc (.cells #[.int .u8 120] 5)).cell? ((⟨wr.heap.size, 0, none⟩ : Addr).add j) = some u) := hide (news_of (l := [120]) (bytes_new wr [120] (0, 0)) wr.heap.size 0 rfl)
        clear h120
        go_wp2_with (at_builtin; go_must (refine wpList_append_own _ (by rfl) _ _ 22 (by rfl) w.heap.size 5 i0 _ 1 1 Tryd.underlying22 hi hz0 hz1 hz2 rfl (by omega) _ F.length (bytesV F) (by rfl) (unhide HA1) ⟨wr.heap.size, 0, none⟩ 1 1 [.int .u8 120] (by rfl) (by rfl) (unhide HN1) (by intro u hu; simp at hu; subst hu; rfl) (by have := unhide HIN; unfold maxLen; omega) (by have := unhide HIN; omega) (unhide HS1) ?_); intro v2 w2 ho2 hgr2 _; have HO2 := hide ho2; have HW2 := hide (below_own (unhide HB1) (unhide HA1) (Nat.le_refl _) hgr2); clear ho2 hgr2)
        go_roundg (gk - 1)
        case measure => have := unhide HIN; omega
        case rel => exact ⟨i + 1, F ++ [120], by go_num, by have := unhide HIN; omega, by have := unhide HIN; simp; omega, ⟨by rw [bytesV_app]; simp only [List.length_append, List.length_singleton]; exact unhide HO2, unhide HW2, fun c hc => by rcases List.mem_append.1 hc with h | h; exact (unhide HMB).none c h; simp at h; subst h; decide⟩⟩
      · have hq : ((l[i].toNat : Int) == 60) = false := byte_ne _ 60 h60
        generalize l[i] = c at hc hq h60
        clear hil
        have HA1 := hide ((unhide HALL) c)
        have HS1 := hide ((unhide HSZ) c)
        have HB1 := hide ((unhide HBA) c)
        have HN1 := hide ((unhide HNW) c)
        have H60 := hide h60
        clear h60
        go_wp2_with (at_builtin; go_must (refine wpList_append_own _ (by rfl) _ _ 22 (by rfl) w.heap.size 5 i0 _ 1 1 Tryd.underlying22 hi hz0 hz1 hz2 rfl (by omega) _ F.length (bytesV F) (by rfl) (unhide HA1) ⟨wr.heap.size, 0, none⟩ 1 1 [.int .u8 (c.toNat : Int)] (by rfl) (by rfl) (unhide HN1) (by intro u hu; simp at hu; subst hu; rfl) (by have := unhide HIN; unfold maxLen; omega) (by have := unhide HIN; omega) (unhide HS1) ?_); intro v2 w2 ho2 hgr2 _; have HO2 := hide ho2; have HW2 := hide (below_own (unhide HB1) (unhide HA1) (Nat.le_refl _) hgr2); clear ho2 hgr2)
        go_roundg (gk - 1)
        case measure => have := unhide HIN; omega
        case rel => exact ⟨i + 1, F ++ [c], by go_num, by have := unhide HIN; omega, by have := unhide HIN; simp; omega, ⟨by rw [bytesV_app]; simp only [List.length_append, List.length_singleton]; exact unhide HO2, unhide HW2, fun c' hc => by rcases List.mem_append.1 hc with h | h; exact (unhide HMB).none c' h; simp at h; subst h; exact unhide H60⟩⟩
    · have HFL := hide (show F.length ≤ 500 by omega)
      have HNO := hide hMB.none
      have HO1 := hide ((hMB.own.alloc (.cells row7 9)).alloc (.cells row3 9))
      have HW1 := hide ((hMB.below.alloc hMB.below.size (.cells row7 9)).alloc (by have := hMB.below.size; simp; omega) (.cells row3 9))
      have hqc : ((wr.alloc (.cells row7 9)).alloc (.cells row3 9)).cell? ⟨wr.heap.size + 1, r, none⟩ = some (.string QB) := row3_cell wr r (unhide HR).1 QB (unhide HR).2
      have HNM := hide (fun (w2 : World) (hg : ((wr.alloc (.cells row7 9)).alloc (.cells row3 9)).grownBy w2 u7.ownBlock) => row7_cell wr w2 u7 (fun e => by have := (own_ge hMB.own e.symm).2; omega) hg)
      have hrz : (r : Int) < 3 := by have := unhide HR; omega
      have hqs : QB.size ≤ 1 := by rw [← len_data, (unhide HR).2]; exact qu_len r
      by_cases hil : i < l.length
      · have hiz : (i : Int) < (l.length : Int) := by omega
        have hi5 : ¬ (i : Int) < 500 := by omega
        clear hMB hin hig hil hFl
        go_wp2_with (first
          | (go_at_call 13; refine (unhide HP).mono ?_; rintro e w5 ⟨rfl, hb5⟩; have HW5 := hide ((unhide HW4).trans (hb5.mono (unhide HW4).size)); clear hb5)
          | (at_builtin; have _x := unhide HO3; go_must (refine wpList_append_own_string _ (by rfl) _ _ 22 9 (by rfl) w.heap.size 5 i0 Tryd.underlying22 Tryd.underlying9 hi hz0 hz1 hz2 _ _ _ (by rfl) (unhide HO3) _ (by rfl) (unhide HZ3).1 (unhide HZ3).2 (unhide HW3).size ?_); intro v4 w4 ho4 hgr4 _; have HW4 := hide (below_own (unhide HW3) (unhide HO3) (Nat.le_refl _) hgr4); have HO4 := own_end0 ho4 (unhide HFL) (unhide HNO) (unhide HR).1; obtain ⟨g4, c4, N4, rfl, hp4⟩ := HO4; have HP := hide hp4; clear ho4 hgr4 hp4)
          | (at_builtin; have _x := unhide HO2; go_must (refine wpList_append_own_string _ (by rfl) _ _ 22 9 (by rfl) w.heap.size 5 i0 Tryd.underlying22 Tryd.underlying9 hi hz0 hz1 hz2 _ _ _ (by rfl) (unhide HO2) _ (by rfl) (by exact (name_room0 (unhide HFL) (unhide HR)).1) (by exact (name_room0 (unhide HFL) (unhide HR)).2) (unhide HW2).size ?_); intro v3 w3 ho3 hgr3 _; have HW3 := hide (below_own (unhide HW2) (unhide HO2) (Nat.le_refl _) hgr3); have HO3 := hide (own_name0 ho3 (unhide HR)); have HZ3 := hide (end_room0 (r := r) (unhide HFL)); clear ho3 hgr3)
          | (at_builtin; go_must (refine wpList_append_own_string _ (by rfl) _ _ 22 9 (by rfl) w.heap.size 5 i0 Tryd.underlying22 Tryd.underlying9 hi hz0 hz1 hz2 _ _ _ (by rfl) (unhide HO1) _ (by rfl) (by exact (ahead_room (unhide HFL)).1) (by exact (ahead_room (unhide HFL)).2) (unhide HW1).size ?_); intro v2 w2 ho2 hgr2 _; have HO2 := hide (own_ahead ho2); have HW2 := hide (below_own (unhide HW1) (unhide HO1) (Nat.le_refl _) hgr2); have hnm2 : w2.cell? ⟨wr.heap.size, 0, none⟩ = some (.string ⟨#[117, 116, 102, 45, 56]⟩) := ((unhide HNM) w2 hgr2) 0 ⟨#[117, 116, 102, 45, 56]⟩ rfl; clear ho2 hgr2))
        go_ret
        exact ⟨rfl, unhide HW5⟩
      · have hiz : ¬ (i : Int) < (l.length : Int) := by omega
        clear hMB hin hig hil hFl
        go_wp2_with (first
          | (go_at_call 13; refine (unhide HP).mono ?_; rintro e w5 ⟨rfl, hb5⟩; have HW5 := hide ((unhide HW4).trans (hb5.mono (unhide HW4).size)); clear hb5)
          | (at_builtin; have _x := unhide HO3; go_must (refine wpList_append_own_string _ (by rfl) _ _ 22 9 (by rfl) w.heap.size 5 i0 Tryd.underlying22 Tryd.underlying9 hi hz0 hz1 hz2 _ _ _ (by rfl) (unhide HO3) _ (by rfl) (unhide HZ3).1 (unhide HZ3).2 (unhide HW3).size ?_); intro v4 w4 ho4 hgr4 _; have HW4 := hide (below_own (unhide HW3) (unhide HO3) (Nat.le_refl _) hgr4); have HO4 := own_end0 ho4 (unhide HFL) (unhide HNO) (unhide HR).1; obtain ⟨g4, c4, N4, rfl, hp4⟩ := HO4; have HP := hide hp4; clear ho4 hgr4 hp4)
          | (at_builtin; have _x := unhide HO2; go_must (refine wpList_append_own_string _ (by rfl) _ _ 22 9 (by rfl) w.heap.size 5 i0 Tryd.underlying22 Tryd.underlying9 hi hz0 hz1 hz2 _ _ _ (by rfl) (unhide HO2) _ (by rfl) (by exact (name_room0 (unhide HFL) (unhide HR)).1) (by exact (name_room0 (unhide HFL) (unhide HR)).2) (unhide HW2).size ?_); intro v3 w3 ho3 hgr3 _; have HW3 := hide (below_own (unhide HW2) (unhide HO2) (Nat.le_refl _) hgr3); have HO3 := hide (own_name0 ho3 (unhide HR)); have HZ3 := hide (end_room0 (r := r) (unhide HFL)); clear ho3 hgr3)
          | (at_builtin; go_must (refine wpList_append_own_string _ (by rfl) _ _ 22 9 (by rfl) w.heap.size 5 i0 Tryd.underlying22 Tryd.underlying9 hi hz0 hz1 hz2 _ _ _ (by rfl) (unhide HO1) _ (by rfl) (by exact (ahead_room (unhide HFL)).1) (by exact (ahead_room (unhide HFL)).2) (unhide HW1).size ?_); intro v2 w2 ho2 hgr2 _; have HO2 := hide (own_ahead ho2); have HW2 := hide (below_own (unhide HW1) (unhide HO1) (Nat.le_refl _) hgr2); have hnm2 : w2.cell? ⟨wr.heap.size, 0, none⟩ = some (.string ⟨#[117, 116, 102, 45, 56]⟩) := ((unhide HNM) w2 hgr2) 0 ⟨#[117, 116, 102, 45, 56]⟩ rfl; clear ho2 hgr2))
        go_ret
        exact ⟨rfl, unhide HW5⟩

theorem name_room1 {F : List UInt8} {r : Nat} {QB : ByteArray} (h : F.length ≤ 500) (hR : r < 3 ∧ QB.data.toList = quL r) : (F ++ aheadL).length + (QB ++ ⟨#[117, 116, 102, 45, 49, 54, 108, 101]⟩ ++ QB).size ≤ maxLen ∧ (F ++ aheadL).length + (QB ++ ⟨#[117, 116, 102, 45, 49, 54, 108, 101]⟩ ++ QB).size ≤ 140737488355328 := by
  have h1 := (name_size (n := 1) (NMB := ⟨#[117, 116, 102, 45, 49, 54, 108, 101]⟩) hR rfl).1
  have h2 := qu_len r
  have h3 := nm_len 1
  have h4 : aheadL.length = 14 := rfl
  rw [h1]
  simp only [List.length_append, h4]
  unfold maxLen
  omega
theorem own_name1 {w3 : World} {k r : Nat} {v : Value} {F : List UInt8} {QB : ByteArray} (ho : w3.ownsRow k 5 1 v ((F ++ aheadL).length + (QB ++ ⟨#[117, 116, 102, 45, 49, 54, 108, 101]⟩ ++ QB).size) (bytesV (F ++ aheadL) ++ strCells (QB ++ ⟨#[117, 116, 102, 45, 49, 54, 108, 101]⟩ ++ QB))) (hR : r < 3 ∧ QB.data.toList = quL r) : w3.ownsRow k 5 1 v (F ++ aheadL ++ (quL r ++ nmL 1 ++ quL r)).length (bytesV (F ++ aheadL ++ (quL r ++ nmL 1 ++ quL r))) := by
  have h1 := name_size (n := 1) (NMB := ⟨#[117, 116, 102, 45, 49, 54, 108, 101]⟩) hR rfl
  rw [strC, h1.1, h1.2, ← bytesV_app] at ho
  rw [List.length_append]
  exact ho
theorem end_room1 {F : List UInt8} {r : Nat} (h : F.length ≤ 500) : (F ++ aheadL ++ (quL r ++ nmL 1 ++ quL r)).length + (⟨#[32, 62]⟩ : ByteArray).size ≤ maxLen ∧ (F ++ aheadL ++ (quL r ++ nmL 1 ++ quL r)).length + (⟨#[32, 62]⟩ : ByteArray).size ≤ 140737488355328 := by
  have h2 := qu_len r
  have h3 := nm_len 1
  have h4 : aheadL.length = 14 := rfl
  have h5 : (⟨#[32, 62]⟩ : ByteArray).size = 2 := rfl
  rw [h5]
  simp only [List.length_append, h4]
  unfold maxLen
  omega
theorem own_end1 {w4 : World} {k r : Nat} {v : Value} {F : List UInt8} (ho : w4.ownsRow k 5 1 v ((F ++ aheadL ++ (quL r ++ nmL 1 ++ quL r)).length + (⟨#[32, 62]⟩ : ByteArray).size) (bytesV (F ++ aheadL ++ (quL r ++ nmL 1 ++ quL r)) ++ strCells ⟨#[32, 62]⟩)) (hF : F.length ≤ 500) (hn : ∀ c ∈ F, c ≠ 60) (hr : r < 3) :
    ∃ g c N, v = .slice (some ⟨g, 0, none⟩) N c ∧ Calls Tryd.prog 13 #[.slice (some ⟨g, 0, none⟩) N c] w4 fun e w' => e = .returned (.tuple #[.int .i64 0, .int .i64 0]) ∧ Below w4.heap.size w4 w' := by
  have e1 : F ++ aheadL ++ (quL r ++ nmL 1 ++ quL r) ++ endL = F ++ sufL 1 r := by unfold sufL; simp only [List.append_assoc]
  have ho2 : w4.ownsRow k 5 1 v (F ++ sufL 1 r).length (bytesV (F ++ sufL 1 r)) := by
    rw [← e1, List.length_append, bytesV_app (F ++ aheadL ++ (quL r ++ nmL 1 ++ quL r))]
    exact ho
  obtain ⟨g, c, hv, hby, hc⟩ := own_some ho2 (by rw [List.length_append]; have := (suf_all 1 (by decide) r hr).2.1.2; omega)
  have hp := prescan_any w4 (some ⟨g, 0, none⟩) c (F ++ sufL 1 r) hby hc
  rw [meta_tells F hn hF 1 r (by decide) hr] at hp
  exact ⟨g, c, _, hv, hp⟩

set_option maxRecDepth 8000 in
set_option maxHeartbeats 1000000 in
theorem meta_walk1 (a : Option Addr) (cap : Nat) (l : List UInt8) (w : World) (hb : BytesIn w a l) (hm : l.length ≤ 140737488351232) (e q : UInt8) (r : Nat) (hr : r < 3) (QB : ByteArray) (hQB : QB.data.toList = quL r) (hq3 : Int.tmod (q.toNat : Int) 3 = (r : Int)) (hq7 : Int.tmod (e.toNat : Int) 7 = 1) :
    Calls Tryd.prog 9 #[.slice a l.length cap, .int .u8 (e.toNat : Int), .int .u8 (q.toNat : Int)] w fun e w' => e = .returned (.bool true) ∧ Below w.heap.size w w' := by
  have HBY := hide hb
  have HM := hide hm
  have HR := hide (And.intro hr hQB)
  clear hb hm hr hQB
  obtain ⟨i0, hi, hz0, hz1, hz2⟩ := info_parts info5
  go_enter Tryd.func9, Tryd.ntmps9
  go_wp2_with fail
  go_loopg [7, 8] (min l.length 500) (fun gx s7 s8 wx => ∃ (i : Nat) (F : List UInt8), s8 = .int .i64 i ∧ i + gx = min l.length 500 ∧ F.length = i ∧ MetaB w wx s7 F)
  case atStart => exact ⟨0, [], rfl, by omega, rfl, ⟨World.ownsRow_nil _ _ _ _, Below.refl _ _, fun c hc => by cases hc⟩⟩
  case round =>
    obtain ⟨i, F, rfl, hig, hFl, hMB⟩ := hrel
    by_cases hin : i < min l.length 500
    · have hiz : (i : Int) < (l.length : Int) := by omega
      have hi5 : (i : Int) < 500 := by omega
      have hil : i < l.length := by omega
      have hw1 : IntKind.i64.wrap ((i : Int) + 1) = (i : Int) + 1 := wrap_add i 1 (by omega) (by omega)
      obtain ⟨b, off, rfl, hc⟩ := ((unhide HBY).below hMB.below).cells i l[i] (List.getElem?_eq_getElem hil)
      have HMB := hide hMB
      have HIN := hide (And.intro hin (And.intro hig hFl))
      have HALL := hide (fun (x : UInt8) => (hMB.own.alloc (.cells #[.int .u8 (x.toNat : Int)] 5)))
      have HSZ := hide (fun (x : UInt8) => (show w.heap.size ≤ (wr.alloc (.cells #[.int .u8 (x.toNat : Int)] 5)).heap.size by have := hMB.below.size; simp; omega))
      have HBA := hide (fun (x : UInt8) => hMB.below.alloc hMB.below.size (.cells #[.int .u8 (x.toNat : Int)] 5))
      have HNW := hide (fun (x : UInt8) => news_of (l := [x]) (bytes_new wr [x] (0, 0)) wr.heap.size 0 rfl)
      clear hMB hin hig
      by_cases h60 : l[i] = 60
      · have hq : ((l[i].toNat : Int) == 60) = true := by rw [h60]; rfl
        generalize l[i] = c at hc hq
        clear h60 hil
        have h120 : ((120 : UInt8).toNat : Int) = 120 := rfl
        have HA1 := hide ((unhide HALL) 120)
        have HS1 := hide ((unhide HSZ) 120)
        have HB1 := hide ((unhide HBA) 120)
        rw [h120] at HA1 HS1 HB1
        have HN1 : Hid (∀ j u, ([.int .u8 120] : List Value)[j]? = some u → (wr.alloc (.cells #[.int .u8 120] 5)).cell? ((⟨wr.heap.size, 0, none⟩ : Addr).add j) = some u) := hide (news_of (l := [120]) (bytes_new wr [120] (0, 0)) wr.heap.size 0 rfl)
        clear h120
        go_wp2_with (at_builtin; go_must (refine wpList_append_own _ (by rfl) _ _ 22 (by rfl) w.heap.size 5 i0 _ 1 1 Tryd.underlying22 hi hz0 hz1 hz2 rfl (by omega) _ F.length (bytesV F) (by rfl) (unhide HA1) ⟨wr.heap.size, 0, none⟩ 1 1 [.int .u8 120] (by rfl) (by rfl) (unhide HN1) (by intro u hu; simp at hu; subst hu; rfl) (by have := unhide HIN; unfold maxLen; omega) (by have := unhide HIN; omega) (unhide HS1) ?_); intro v2 w2 ho2 hgr2 _; have HO2 := hide ho2; have HW2 := hide (below_own (unhide HB1) (unhide HA1) (Nat.le_refl _) hgr2); clear ho2 hgr2)
        go_roundg (gk - 1)
        case measure => have := unhide HIN; omega
        case rel => exact ⟨i + 1, F ++ [120], by go_num, by have := unhide HIN; omega, by have := unhide HIN; simp; omega, ⟨by rw [bytesV_app]; simp only [List.length_append, List.length_singleton]; exact unhide HO2, unhide HW2, fun c hc => by rcases List.mem_append.1 hc with h | h; exact (unhide HMB).none c h; simp at h; subst h; decide⟩⟩
      · have hq : ((l[i].toNat : Int) == 60) = false := byte_ne _ 60 h60
        generalize l[i] = c at hc hq h60
        clear hil
        have HA1 := hide ((unhide HALL) c)
        have HS1 := hide ((unhide HSZ) c)
        have HB1 := hide ((unhide HBA) c)
        have HN1 := hide ((unhide HNW) c)
        have H60 := hide h60
        clear h60
        go_wp2_with (at_builtin; go_must (refine wpList_append_own _ (by rfl) _ _ 22 (by rfl) w.heap.size 5 i0 _ 1 1 Tryd.underlying22 hi hz0 hz1 hz2 rfl (by omega) _ F.length (bytesV F) (by rfl) (unhide HA1) ⟨wr.heap.size, 0, none⟩ 1 1 [.int .u8 (c.toNat : Int)] (by rfl) (by rfl) (unhide HN1) (by intro u hu; simp at hu; subst hu; rfl) (by have := unhide HIN; unfold maxLen; omega) (by have := unhide HIN; omega) (unhide HS1) ?_); intro v2 w2 ho2 hgr2 _; have HO2 := hide ho2; have HW2 := hide (below_own (unhide HB1) (unhide HA1) (Nat.le_refl _) hgr2); clear ho2 hgr2)
        go_roundg (gk - 1)
        case measure => have := unhide HIN; omega
        case rel => exact ⟨i + 1, F ++ [c], by go_num, by have := unhide HIN; omega, by have := unhide HIN; simp; omega, ⟨by rw [bytesV_app]; simp only [List.length_append, List.length_singleton]; exact unhide HO2, unhide HW2, fun c' hc => by rcases List.mem_append.1 hc with h | h; exact (unhide HMB).none c' h; simp at h; subst h; exact unhide H60⟩⟩
    · have HFL := hide (show F.length ≤ 500 by omega)
      have HNO := hide hMB.none
      have HO1 := hide ((hMB.own.alloc (.cells row7 9)).alloc (.cells row3 9))
      have HW1 := hide ((hMB.below.alloc hMB.below.size (.cells row7 9)).alloc (by have := hMB.below.size; simp; omega) (.cells row3 9))
      have hqc : ((wr.alloc (.cells row7 9)).alloc (.cells row3 9)).cell? ⟨wr.heap.size + 1, r, none⟩ = some (.string QB) := row3_cell wr r (unhide HR).1 QB (unhide HR).2
      have HNM := hide (fun (w2 : World) (hg : ((wr.alloc (.cells row7 9)).alloc (.cells row3 9)).grownBy w2 u7.ownBlock) => row7_cell wr w2 u7 (fun e => by have := (own_ge hMB.own e.symm).2; omega) hg)
      have hrz : (r : Int) < 3 := by have := unhide HR; omega
      have hqs : QB.size ≤ 1 := by rw [← len_data, (unhide HR).2]; exact qu_len r
      by_cases hil : i < l.length
      · have hiz : (i : Int) < (l.length : Int) := by omega
        have hi5 : ¬ (i : Int) < 500 := by omega
        clear hMB hin hig hil hFl
        go_wp2_with (first
          | (go_at_call 13; refine (unhide HP).mono ?_; rintro e w5 ⟨rfl, hb5⟩; have HW5 := hide ((unhide HW4).trans (hb5.mono (unhide HW4).size)); clear hb5)
          | (at_builtin; have _x := unhide HO3; go_must (refine wpList_append_own_string _ (by rfl) _ _ 22 9 (by rfl) w.heap.size 5 i0 Tryd.underlying22 Tryd.underlying9 hi hz0 hz1 hz2 _ _ _ (by rfl) (unhide HO3) _ (by rfl) (unhide HZ3).1 (unhide HZ3).2 (unhide HW3).size ?_); intro v4 w4 ho4 hgr4 _; have HW4 := hide (below_own (unhide HW3) (unhide HO3) (Nat.le_refl _) hgr4); have HO4 := own_end1 ho4 (unhide HFL) (unhide HNO) (unhide HR).1; obtain ⟨g4, c4, N4, rfl, hp4⟩ := HO4; have HP := hide hp4; clear ho4 hgr4 hp4)
          | (at_builtin; have _x := unhide HO2; go_must (refine wpList_append_own_string _ (by rfl) _ _ 22 9 (by rfl) w.heap.size 5 i0 Tryd.underlying22 Tryd.underlying9 hi hz0 hz1 hz2 _ _ _ (by rfl) (unhide HO2) _ (by rfl) (by exact (name_room1 (unhide HFL) (unhide HR)).1) (by exact (name_room1 (unhide HFL) (unhide HR)).2) (unhide HW2).size ?_); intro v3 w3 ho3 hgr3 _; have HW3 := hide (below_own (unhide HW2) (unhide HO2) (Nat.le_refl _) hgr3); have HO3 := hide (own_name1 ho3 (unhide HR)); have HZ3 := hide (end_room1 (r := r) (unhide HFL)); clear ho3 hgr3)
          | (at_builtin; go_must (refine wpList_append_own_string _ (by rfl) _ _ 22 9 (by rfl) w.heap.size 5 i0 Tryd.underlying22 Tryd.underlying9 hi hz0 hz1 hz2 _ _ _ (by rfl) (unhide HO1) _ (by rfl) (by exact (ahead_room (unhide HFL)).1) (by exact (ahead_room (unhide HFL)).2) (unhide HW1).size ?_); intro v2 w2 ho2 hgr2 _; have HO2 := hide (own_ahead ho2); have HW2 := hide (below_own (unhide HW1) (unhide HO1) (Nat.le_refl _) hgr2); have hnm2 : w2.cell? ⟨wr.heap.size, 1, none⟩ = some (.string ⟨#[117, 116, 102, 45, 49, 54, 108, 101]⟩) := ((unhide HNM) w2 hgr2) 1 ⟨#[117, 116, 102, 45, 49, 54, 108, 101]⟩ rfl; clear ho2 hgr2))
        go_ret
        exact ⟨rfl, unhide HW5⟩
      · have hiz : ¬ (i : Int) < (l.length : Int) := by omega
        clear hMB hin hig hil hFl
        go_wp2_with (first
          | (go_at_call 13; refine (unhide HP).mono ?_; rintro e w5 ⟨rfl, hb5⟩; have HW5 := hide ((unhide HW4).trans (hb5.mono (unhide HW4).size)); clear hb5)
          | (at_builtin; have _x := unhide HO3; go_must (refine wpList_append_own_string _ (by rfl) _ _ 22 9 (by rfl) w.heap.size 5 i0 Tryd.underlying22 Tryd.underlying9 hi hz0 hz1 hz2 _ _ _ (by rfl) (unhide HO3) _ (by rfl) (unhide HZ3).1 (unhide HZ3).2 (unhide HW3).size ?_); intro v4 w4 ho4 hgr4 _; have HW4 := hide (below_own (unhide HW3) (unhide HO3) (Nat.le_refl _) hgr4); have HO4 := own_end1 ho4 (unhide HFL) (unhide HNO) (unhide HR).1; obtain ⟨g4, c4, N4, rfl, hp4⟩ := HO4; have HP := hide hp4; clear ho4 hgr4 hp4)
          | (at_builtin; have _x := unhide HO2; go_must (refine wpList_append_own_string _ (by rfl) _ _ 22 9 (by rfl) w.heap.size 5 i0 Tryd.underlying22 Tryd.underlying9 hi hz0 hz1 hz2 _ _ _ (by rfl) (unhide HO2) _ (by rfl) (by exact (name_room1 (unhide HFL) (unhide HR)).1) (by exact (name_room1 (unhide HFL) (unhide HR)).2) (unhide HW2).size ?_); intro v3 w3 ho3 hgr3 _; have HW3 := hide (below_own (unhide HW2) (unhide HO2) (Nat.le_refl _) hgr3); have HO3 := hide (own_name1 ho3 (unhide HR)); have HZ3 := hide (end_room1 (r := r) (unhide HFL)); clear ho3 hgr3)
          | (at_builtin; go_must (refine wpList_append_own_string _ (by rfl) _ _ 22 9 (by rfl) w.heap.size 5 i0 Tryd.underlying22 Tryd.underlying9 hi hz0 hz1 hz2 _ _ _ (by rfl) (unhide HO1) _ (by rfl) (by exact (ahead_room (unhide HFL)).1) (by exact (ahead_room (unhide HFL)).2) (unhide HW1).size ?_); intro v2 w2 ho2 hgr2 _; have HO2 := hide (own_ahead ho2); have HW2 := hide (below_own (unhide HW1) (unhide HO1) (Nat.le_refl _) hgr2); have hnm2 : w2.cell? ⟨wr.heap.size, 1, none⟩ = some (.string ⟨#[117, 116, 102, 45, 49, 54, 108, 101]⟩) := ((unhide HNM) w2 hgr2) 1 ⟨#[117, 116, 102, 45, 49, 54, 108, 101]⟩ rfl; clear ho2 hgr2))
        go_ret
        exact ⟨rfl, unhide HW5⟩

theorem name_room2 {F : List UInt8} {r : Nat} {QB : ByteArray} (h : F.length ≤ 500) (hR : r < 3 ∧ QB.data.toList = quL r) : (F ++ aheadL).length + (QB ++ ⟨#[117, 116, 102, 45, 49, 54, 98, 101]⟩ ++ QB).size ≤ maxLen ∧ (F ++ aheadL).length + (QB ++ ⟨#[117, 116, 102, 45, 49, 54, 98, 101]⟩ ++ QB).size ≤ 140737488355328 := by
  have h1 := (name_size (n := 2) (NMB := ⟨#[117, 116, 102, 45, 49, 54, 98, 101]⟩) hR rfl).1
  have h2 := qu_len r
  have h3 := nm_len 2
  have h4 : aheadL.length = 14 := rfl
  rw [h1]
  simp only [List.length_append, h4]
  unfold maxLen
  omega
theorem own_name2 {w3 : World} {k r : Nat} {v : Value} {F : List UInt8} {QB : ByteArray} (ho : w3.ownsRow k 5 1 v ((F ++ aheadL).length + (QB ++ ⟨#[117, 116, 102, 45, 49, 54, 98, 101]⟩ ++ QB).size) (bytesV (F ++ aheadL) ++ strCells (QB ++ ⟨#[117, 116, 102, 45, 49, 54, 98, 101]⟩ ++ QB))) (hR : r < 3 ∧ QB.data.toList = quL r) : w3.ownsRow k 5 1 v (F ++ aheadL ++ (quL r ++ nmL 2 ++ quL r)).length (bytesV (F ++ aheadL ++ (quL r ++ nmL 2 ++ quL r))) := by
  have h1 := name_size (n := 2) (NMB := ⟨#[117, 116, 102, 45, 49, 54, 98, 101]⟩) hR rfl
  rw [strC, h1.1, h1.2, ← bytesV_app] at ho
  rw [List.length_append]
  exact ho
theorem end_room2 {F : List UInt8} {r : Nat} (h : F.length ≤ 500) : (F ++ aheadL ++ (quL r ++ nmL 2 ++ quL r)).length + (⟨#[32, 62]⟩ : ByteArray).size ≤ maxLen ∧ (F ++ aheadL ++ (quL r ++ nmL 2 ++ quL r)).length + (⟨#[32, 62]⟩ : ByteArray).size ≤ 140737488355328 := by
  have h2 := qu_len r
  have h3 := nm_len 2
  have h4 : aheadL.length = 14 := rfl
  have h5 : (⟨#[32, 62]⟩ : ByteArray).size = 2 := rfl
  rw [h5]
  simp only [List.length_append, h4]
  unfold maxLen
  omega
theorem own_end2 {w4 : World} {k r : Nat} {v : Value} {F : List UInt8} (ho : w4.ownsRow k 5 1 v ((F ++ aheadL ++ (quL r ++ nmL 2 ++ quL r)).length + (⟨#[32, 62]⟩ : ByteArray).size) (bytesV (F ++ aheadL ++ (quL r ++ nmL 2 ++ quL r)) ++ strCells ⟨#[32, 62]⟩)) (hF : F.length ≤ 500) (hn : ∀ c ∈ F, c ≠ 60) (hr : r < 3) :
    ∃ g c N, v = .slice (some ⟨g, 0, none⟩) N c ∧ Calls Tryd.prog 13 #[.slice (some ⟨g, 0, none⟩) N c] w4 fun e w' => e = .returned (.tuple #[.int .i64 0, .int .i64 0]) ∧ Below w4.heap.size w4 w' := by
  have e1 : F ++ aheadL ++ (quL r ++ nmL 2 ++ quL r) ++ endL = F ++ sufL 2 r := by unfold sufL; simp only [List.append_assoc]
  have ho2 : w4.ownsRow k 5 1 v (F ++ sufL 2 r).length (bytesV (F ++ sufL 2 r)) := by
    rw [← e1, List.length_append, bytesV_app (F ++ aheadL ++ (quL r ++ nmL 2 ++ quL r))]
    exact ho
  obtain ⟨g, c, hv, hby, hc⟩ := own_some ho2 (by rw [List.length_append]; have := (suf_all 2 (by decide) r hr).2.1.2; omega)
  have hp := prescan_any w4 (some ⟨g, 0, none⟩) c (F ++ sufL 2 r) hby hc
  rw [meta_tells F hn hF 2 r (by decide) hr] at hp
  exact ⟨g, c, _, hv, hp⟩

set_option maxRecDepth 8000 in
set_option maxHeartbeats 1000000 in
theorem meta_walk2 (a : Option Addr) (cap : Nat) (l : List UInt8) (w : World) (hb : BytesIn w a l) (hm : l.length ≤ 140737488351232) (e q : UInt8) (r : Nat) (hr : r < 3) (QB : ByteArray) (hQB : QB.data.toList = quL r) (hq3 : Int.tmod (q.toNat : Int) 3 = (r : Int)) (hq7 : Int.tmod (e.toNat : Int) 7 = 2) :
    Calls Tryd.prog 9 #[.slice a l.length cap, .int .u8 (e.toNat : Int), .int .u8 (q.toNat : Int)] w fun e w' => e = .returned (.bool true) ∧ Below w.heap.size w w' := by
  have HBY := hide hb
  have HM := hide hm
  have HR := hide (And.intro hr hQB)
  clear hb hm hr hQB
  obtain ⟨i0, hi, hz0, hz1, hz2⟩ := info_parts info5
  go_enter Tryd.func9, Tryd.ntmps9
  go_wp2_with fail
  go_loopg [7, 8] (min l.length 500) (fun gx s7 s8 wx => ∃ (i : Nat) (F : List UInt8), s8 = .int .i64 i ∧ i + gx = min l.length 500 ∧ F.length = i ∧ MetaB w wx s7 F)
  case atStart => exact ⟨0, [], rfl, by omega, rfl, ⟨World.ownsRow_nil _ _ _ _, Below.refl _ _, fun c hc => by cases hc⟩⟩
  case round =>
    obtain ⟨i, F, rfl, hig, hFl, hMB⟩ := hrel
    by_cases hin : i < min l.length 500
    · have hiz : (i : Int) < (l.length : Int) := by omega
      have hi5 : (i : Int) < 500 := by omega
      have hil : i < l.length := by omega
      have hw1 : IntKind.i64.wrap ((i : Int) + 1) = (i : Int) + 1 := wrap_add i 1 (by omega) (by omega)
      obtain ⟨b, off, rfl, hc⟩ := ((unhide HBY).below hMB.below).cells i l[i] (List.getElem?_eq_getElem hil)
      have HMB := hide hMB
      have HIN := hide (And.intro hin (And.intro hig hFl))
      have HALL := hide (fun (x : UInt8) => (hMB.own.alloc (.cells #[.int .u8 (x.toNat : Int)] 5)))
      have HSZ := hide (fun (x : UInt8) => (show w.heap.size ≤ (wr.alloc (.cells #[.int .u8 (x.toNat : Int)] 5)).heap.size by have := hMB.below.size; simp; omega))
      have HBA := hide (fun (x : UInt8) => hMB.below.alloc hMB.below.size (.cells #[.int .u8 (x.toNat : Int)] 5))
      have HNW := hide (fun (x : UInt8) => news_of (l := [x]) (bytes_new wr [x] (0, 0)) wr.heap.size 0 rfl)
      clear hMB hin hig
      by_cases h60 : l[i] = 60
      · have hq : ((l[i].toNat : Int) == 60) = true := by rw [h60]; rfl
        generalize l[i] = c at hc hq
        clear h60 hil
        have h120 : ((120 : UInt8).toNat : Int) = 120 := rfl
        have HA1 := hide ((unhide HALL) 120)
        have HS1 := hide ((unhide HSZ) 120)
        have HB1 := hide ((unhide HBA) 120)
        rw [h120] at HA1 HS1 HB1
        have HN1 : Hid (∀ j u, ([.int .u8 120] : List Value)[j]? = some u → (wr.alloc (.cells #[.int .u8 120] 5)).cell? ((⟨wr.heap.size, 0, none⟩ : Addr).add j) = some u) := hide (news_of (l := [120]) (bytes_new wr [120] (0, 0)) wr.heap.size 0 rfl)
        clear h120
        go_wp2_with (at_builtin; go_must (refine wpList_append_own _ (by rfl) _ _ 22 (by rfl) w.heap.size 5 i0 _ 1 1 Tryd.underlying22 hi hz0 hz1 hz2 rfl (by omega) _ F.length (bytesV F) (by rfl) (unhide HA1) ⟨wr.heap.size, 0, none⟩ 1 1 [.int .u8 120] (by rfl) (by rfl) (unhide HN1) (by intro u hu; simp at hu; subst hu; rfl) (by have := unhide HIN; unfold maxLen; omega) (by have := unhide HIN; omega) (unhide HS1) ?_); intro v2 w2 ho2 hgr2 _; have HO2 := hide ho2; have HW2 := hide (below_own (unhide HB1) (unhide HA1) (Nat.le_refl _) hgr2); clear ho2 hgr2)
        go_roundg (gk - 1)
        case measure => have := unhide HIN; omega
        case rel => exact ⟨i + 1, F ++ [120], by go_num, by have := unhide HIN; omega, by have := unhide HIN; simp; omega, ⟨by rw [bytesV_app]; simp only [List.length_append, List.length_singleton]; exact unhide HO2, unhide HW2, fun c hc => by rcases List.mem_append.1 hc with h | h; exact (unhide HMB).none c h; simp at h; subst h; decide⟩⟩
      · have hq : ((l[i].toNat : Int) == 60) = false := byte_ne _ 60 h60
        generalize l[i] = c at hc hq h60
        clear hil
        have HA1 := hide ((unhide HALL) c)
        have HS1 := hide ((unhide HSZ) c)
        have HB1 := hide ((unhide HBA) c)
        have HN1 := hide ((unhide HNW) c)
        have H60 := hide h60
        clear h60
        go_wp2_with (at_builtin; go_must (refine wpList_append_own _ (by rfl) _ _ 22 (by rfl) w.heap.size 5 i0 _ 1 1 Tryd.underlying22 hi hz0 hz1 hz2 rfl (by omega) _ F.length (bytesV F) (by rfl) (unhide HA1) ⟨wr.heap.size, 0, none⟩ 1 1 [.int .u8 (c.toNat : Int)] (by rfl) (by rfl) (unhide HN1) (by intro u hu; simp at hu; subst hu; rfl) (by have := unhide HIN; unfold maxLen; omega) (by have := unhide HIN; omega) (unhide HS1) ?_); intro v2 w2 ho2 hgr2 _; have HO2 := hide ho2; have HW2 := hide (below_own (unhide HB1) (unhide HA1) (Nat.le_refl _) hgr2); clear ho2 hgr2)
        go_roundg (gk - 1)
        case measure => have := unhide HIN; omega
        case rel => exact ⟨i + 1, F ++ [c], by go_num, by have := unhide HIN; omega, by have := unhide HIN; simp; omega, ⟨by rw [bytesV_app]; simp only [List.length_append, List.length_singleton]; exact unhide HO2, unhide HW2, fun c' hc => by rcases List.mem_append.1 hc with h | h; exact (unhide HMB).none c' h; simp at h; subst h; exact unhide H60⟩⟩
    · have HFL := hide (show F.length ≤ 500 by omega)
      have HNO := hide hMB.none
      have HO1 := hide ((hMB.own.alloc (.cells row7 9)).alloc (.cells row3 9))
      have HW1 := hide ((hMB.below.alloc hMB.below.size (.cells row7 9)).alloc (by have := hMB.below.size; simp; omega) (.cells row3 9))
      have hqc : ((wr.alloc (.cells row7 9)).alloc (.cells row3 9)).cell? ⟨wr.heap.size + 1, r, none⟩ = some (.string QB) := row3_cell wr r (unhide HR).1 QB (unhide HR).2
      have HNM := hide (fun (w2 : World) (hg : ((wr.alloc (.cells row7 9)).alloc (.cells row3 9)).grownBy w2 u7.ownBlock) => row7_cell wr w2 u7 (fun e => by have := (own_ge hMB.own e.symm).2; omega) hg)
      have hrz : (r : Int) < 3 := by have := unhide HR; omega
      have hqs : QB.size ≤ 1 := by rw [← len_data, (unhide HR).2]; exact qu_len r
      by_cases hil : i < l.length
      · have hiz : (i : Int) < (l.length : Int) := by omega
        have hi5 : ¬ (i : Int) < 500 := by omega
        clear hMB hin hig hil hFl
        go_wp2_with (first
          | (go_at_call 13; refine (unhide HP).mono ?_; rintro e w5 ⟨rfl, hb5⟩; have HW5 := hide ((unhide HW4).trans (hb5.mono (unhide HW4).size)); clear hb5)
          | (at_builtin; have _x := unhide HO3; go_must (refine wpList_append_own_string _ (by rfl) _ _ 22 9 (by rfl) w.heap.size 5 i0 Tryd.underlying22 Tryd.underlying9 hi hz0 hz1 hz2 _ _ _ (by rfl) (unhide HO3) _ (by rfl) (unhide HZ3).1 (unhide HZ3).2 (unhide HW3).size ?_); intro v4 w4 ho4 hgr4 _; have HW4 := hide (below_own (unhide HW3) (unhide HO3) (Nat.le_refl _) hgr4); have HO4 := own_end2 ho4 (unhide HFL) (unhide HNO) (unhide HR).1; obtain ⟨g4, c4, N4, rfl, hp4⟩ := HO4; have HP := hide hp4; clear ho4 hgr4 hp4)
          | (at_builtin; have _x := unhide HO2; go_must (refine wpList_append_own_string _ (by rfl) _ _ 22 9 (by rfl) w.heap.size 5 i0 Tryd.underlying22 Tryd.underlying9 hi hz0 hz1 hz2 _ _ _ (by rfl) (unhide HO2) _ (by rfl) (by exact (name_room2 (unhide HFL) (unhide HR)).1) (by exact (name_room2 (unhide HFL) (unhide HR)).2) (unhide HW2).size ?_); intro v3 w3 ho3 hgr3 _; have HW3 := hide (below_own (unhide HW2) (unhide HO2) (Nat.le_refl _) hgr3); have HO3 := hide (own_name2 ho3 (unhide HR)); have HZ3 := hide (end_room2 (r := r) (unhide HFL)); clear ho3 hgr3)
          | (at_builtin; go_must (refine wpList_append_own_string _ (by rfl) _ _ 22 9 (by rfl) w.heap.size 5 i0 Tryd.underlying22 Tryd.underlying9 hi hz0 hz1 hz2 _ _ _ (by rfl) (unhide HO1) _ (by rfl) (by exact (ahead_room (unhide HFL)).1) (by exact (ahead_room (unhide HFL)).2) (unhide HW1).size ?_); intro v2 w2 ho2 hgr2 _; have HO2 := hide (own_ahead ho2); have HW2 := hide (below_own (unhide HW1) (unhide HO1) (Nat.le_refl _) hgr2); have hnm2 : w2.cell? ⟨wr.heap.size, 2, none⟩ = some (.string ⟨#[117, 116, 102, 45, 49, 54, 98, 101]⟩) := ((unhide HNM) w2 hgr2) 2 ⟨#[117, 116, 102, 45, 49, 54, 98, 101]⟩ rfl; clear ho2 hgr2))
        go_ret
        exact ⟨rfl, unhide HW5⟩
      · have hiz : ¬ (i : Int) < (l.length : Int) := by omega
        clear hMB hin hig hil hFl
        go_wp2_with (first
          | (go_at_call 13; refine (unhide HP).mono ?_; rintro e w5 ⟨rfl, hb5⟩; have HW5 := hide ((unhide HW4).trans (hb5.mono (unhide HW4).size)); clear hb5)
          | (at_builtin; have _x := unhide HO3; go_must (refine wpList_append_own_string _ (by rfl) _ _ 22 9 (by rfl) w.heap.size 5 i0 Tryd.underlying22 Tryd.underlying9 hi hz0 hz1 hz2 _ _ _ (by rfl) (unhide HO3) _ (by rfl) (unhide HZ3).1 (unhide HZ3).2 (unhide HW3).size ?_); intro v4 w4 ho4 hgr4 _; have HW4 := hide (below_own (unhide HW3) (unhide HO3) (Nat.le_refl _) hgr4); have HO4 := own_end2 ho4 (unhide HFL) (unhide HNO) (unhide HR).1; obtain ⟨g4, c4, N4, rfl, hp4⟩ := HO4; have HP := hide hp4; clear ho4 hgr4 hp4)
          | (at_builtin; have _x := unhide HO2; go_must (refine wpList_append_own_string _ (by rfl) _ _ 22 9 (by rfl) w.heap.size 5 i0 Tryd.underlying22 Tryd.underlying9 hi hz0 hz1 hz2 _ _ _ (by rfl) (unhide HO2) _ (by rfl) (by exact (name_room2 (unhide HFL) (unhide HR)).1) (by exact (name_room2 (unhide HFL) (unhide HR)).2) (unhide HW2).size ?_); intro v3 w3 ho3 hgr3 _; have HW3 := hide (below_own (unhide HW2) (unhide HO2) (Nat.le_refl _) hgr3); have HO3 := hide (own_name2 ho3 (unhide HR)); have HZ3 := hide (end_room2 (r := r) (unhide HFL)); clear ho3 hgr3)
          | (at_builtin; go_must (refine wpList_append_own_string _ (by rfl) _ _ 22 9 (by rfl) w.heap.size 5 i0 Tryd.underlying22 Tryd.underlying9 hi hz0 hz1 hz2 _ _ _ (by rfl) (unhide HO1) _ (by rfl) (by exact (ahead_room (unhide HFL)).1) (by exact (ahead_room (unhide HFL)).2) (unhide HW1).size ?_); intro v2 w2 ho2 hgr2 _; have HO2 := hide (own_ahead ho2); have HW2 := hide (below_own (unhide HW1) (unhide HO1) (Nat.le_refl _) hgr2); have hnm2 : w2.cell? ⟨wr.heap.size, 2, none⟩ = some (.string ⟨#[117, 116, 102, 45, 49, 54, 98, 101]⟩) := ((unhide HNM) w2 hgr2) 2 ⟨#[117, 116, 102, 45, 49, 54, 98, 101]⟩ rfl; clear ho2 hgr2))
        go_ret
        exact ⟨rfl, unhide HW5⟩

theorem name_room3 {F : List UInt8} {r : Nat} {QB : ByteArray} (h : F.length ≤ 500) (hR : r < 3 ∧ QB.data.toList = quL r) : (F ++ aheadL).length + (QB ++ ⟨#[119, 105, 110, 100, 111, 119, 115, 45, 49, 50, 53, 50]⟩ ++ QB).size ≤ maxLen ∧ (F ++ aheadL).length + (QB ++ ⟨#[119, 105, 110, 100, 111, 119, 115, 45, 49, 50, 53, 50]⟩ ++ QB).size ≤ 140737488355328 := by
  have h1 := (name_size (n := 3) (NMB := ⟨#[119, 105, 110, 100, 111, 119, 115, 45, 49, 50, 53, 50]⟩) hR rfl).1
  have h2 := qu_len r
  have h3 := nm_len 3
  have h4 : aheadL.length = 14 := rfl
  rw [h1]
  simp only [List.length_append, h4]
  unfold maxLen
  omega
theorem own_name3 {w3 : World} {k r : Nat} {v : Value} {F : List UInt8} {QB : ByteArray} (ho : w3.ownsRow k 5 1 v ((F ++ aheadL).length + (QB ++ ⟨#[119, 105, 110, 100, 111, 119, 115, 45, 49, 50, 53, 50]⟩ ++ QB).size) (bytesV (F ++ aheadL) ++ strCells (QB ++ ⟨#[119, 105, 110, 100, 111, 119, 115, 45, 49, 50, 53, 50]⟩ ++ QB))) (hR : r < 3 ∧ QB.data.toList = quL r) : w3.ownsRow k 5 1 v (F ++ aheadL ++ (quL r ++ nmL 3 ++ quL r)).length (bytesV (F ++ aheadL ++ (quL r ++ nmL 3 ++ quL r))) := by
  have h1 := name_size (n := 3) (NMB := ⟨#[119, 105, 110, 100, 111, 119, 115, 45, 49, 50, 53, 50]⟩) hR rfl
  rw [strC, h1.1, h1.2, ← bytesV_app] at ho
  rw [List.length_append]
  exact ho
theorem end_room3 {F : List UInt8} {r : Nat} (h : F.length ≤ 500) : (F ++ aheadL ++ (quL r ++ nmL 3 ++ quL r)).length + (⟨#[32, 62]⟩ : ByteArray).size ≤ maxLen ∧ (F ++ aheadL ++ (quL r ++ nmL 3 ++ quL r)).length + (⟨#[32, 62]⟩ : ByteArray).size ≤ 140737488355328 := by
  have h2 := qu_len r
  have h3 := nm_len 3
  have h4 : aheadL.length = 14 := rfl
  have h5 : (⟨#[32, 62]⟩ : ByteArray).size = 2 := rfl
  rw [h5]
  simp only [List.length_append, h4]
  unfold maxLen
  omega
theorem own_end3 {w4 : World} {k r : Nat} {v : Value} {F : List UInt8} (ho : w4.ownsRow k 5 1 v ((F ++ aheadL ++ (quL r ++ nmL 3 ++ quL r)).length + (⟨#[32, 62]⟩ : ByteArray).size) (bytesV (F ++ aheadL ++ (quL r ++ nmL 3 ++ quL r)) ++ strCells ⟨#[32, 62]⟩)) (hF : F.length ≤ 500) (hn : ∀ c ∈ F, c ≠ 60) (hr : r < 3) :
    ∃ g c N, v = .slice (some ⟨g, 0, none⟩) N c ∧ Calls Tryd.prog 13 #[.slice (some ⟨g, 0, none⟩) N c] w4 fun e w' => e = .returned (.tuple #[.int .i64 3, .int .i64 0]) ∧ Below w4.heap.size w4 w' := by
  have e1 : F ++ aheadL ++ (quL r ++ nmL 3 ++ quL r) ++ endL = F ++ sufL 3 r := by unfold sufL; simp only [List.append_assoc]
  have ho2 : w4.ownsRow k 5 1 v (F ++ sufL 3 r).length (bytesV (F ++ sufL 3 r)) := by
    rw [← e1, List.length_append, bytesV_app (F ++ aheadL ++ (quL r ++ nmL 3 ++ quL r))]
    exact ho
  obtain ⟨g, c, hv, hby, hc⟩ := own_some ho2 (by rw [List.length_append]; have := (suf_all 3 (by decide) r hr).2.1.2; omega)
  have hp := prescan_any w4 (some ⟨g, 0, none⟩) c (F ++ sufL 3 r) hby hc
  rw [meta_tells F hn hF 3 r (by decide) hr] at hp
  exact ⟨g, c, _, hv, hp⟩

set_option maxRecDepth 8000 in
set_option maxHeartbeats 1000000 in
theorem meta_walk3 (a : Option Addr) (cap : Nat) (l : List UInt8) (w : World) (hb : BytesIn w a l) (hm : l.length ≤ 140737488351232) (e q : UInt8) (r : Nat) (hr : r < 3) (QB : ByteArray) (hQB : QB.data.toList = quL r) (hq3 : Int.tmod (q.toNat : Int) 3 = (r : Int)) (hq7 : Int.tmod (e.toNat : Int) 7 = 3) :
    Calls Tryd.prog 9 #[.slice a l.length cap, .int .u8 (e.toNat : Int), .int .u8 (q.toNat : Int)] w fun e w' => e = .returned (.bool true) ∧ Below w.heap.size w w' := by
  have HBY := hide hb
  have HM := hide hm
  have HR := hide (And.intro hr hQB)
  clear hb hm hr hQB
  obtain ⟨i0, hi, hz0, hz1, hz2⟩ := info_parts info5
  go_enter Tryd.func9, Tryd.ntmps9
  go_wp2_with fail
  go_loopg [7, 8] (min l.length 500) (fun gx s7 s8 wx => ∃ (i : Nat) (F : List UInt8), s8 = .int .i64 i ∧ i + gx = min l.length 500 ∧ F.length = i ∧ MetaB w wx s7 F)
  case atStart => exact ⟨0, [], rfl, by omega, rfl, ⟨World.ownsRow_nil _ _ _ _, Below.refl _ _, fun c hc => by cases hc⟩⟩
  case round =>
    obtain ⟨i, F, rfl, hig, hFl, hMB⟩ := hrel
    by_cases hin : i < min l.length 500
    · have hiz : (i : Int) < (l.length : Int) := by omega
      have hi5 : (i : Int) < 500 := by omega
      have hil : i < l.length := by omega
      have hw1 : IntKind.i64.wrap ((i : Int) + 1) = (i : Int) + 1 := wrap_add i 1 (by omega) (by omega)
      obtain ⟨b, off, rfl, hc⟩ := ((unhide HBY).below hMB.below).cells i l[i] (List.getElem?_eq_getElem hil)
      have HMB := hide hMB
      have HIN := hide (And.intro hin (And.intro hig hFl))
      have HALL := hide (fun (x : UInt8) => (hMB.own.alloc (.cells #[.int .u8 (x.toNat : Int)] 5)))
      have HSZ := hide (fun (x : UInt8) => (show w.heap.size ≤ (wr.alloc (.cells #[.int .u8 (x.toNat : Int)] 5)).heap.size by have := hMB.below.size; simp; omega))
      have HBA := hide (fun (x : UInt8) => hMB.below.alloc hMB.below.size (.cells #[.int .u8 (x.toNat : Int)] 5))
      have HNW := hide (fun (x : UInt8) => news_of (l := [x]) (bytes_new wr [x] (0, 0)) wr.heap.size 0 rfl)
      clear hMB hin hig
      by_cases h60 : l[i] = 60
      · have hq : ((l[i].toNat : Int) == 60) = true := by rw [h60]; rfl
        generalize l[i] = c at hc hq
        clear h60 hil
        have h120 : ((120 : UInt8).toNat : Int) = 120 := rfl
        have HA1 := hide ((unhide HALL) 120)
        have HS1 := hide ((unhide HSZ) 120)
        have HB1 := hide ((unhide HBA) 120)
        rw [h120] at HA1 HS1 HB1
        have HN1 : Hid (∀ j u, ([.int .u8 120] : List Value)[j]? = some u → (wr.alloc (.cells #[.int .u8 120] 5)).cell? ((⟨wr.heap.size, 0, none⟩ : Addr).add j) = some u) := hide (news_of (l := [120]) (bytes_new wr [120] (0, 0)) wr.heap.size 0 rfl)
        clear h120
        go_wp2_with (at_builtin; go_must (refine wpList_append_own _ (by rfl) _ _ 22 (by rfl) w.heap.size 5 i0 _ 1 1 Tryd.underlying22 hi hz0 hz1 hz2 rfl (by omega) _ F.length (bytesV F) (by rfl) (unhide HA1) ⟨wr.heap.size, 0, none⟩ 1 1 [.int .u8 120] (by rfl) (by rfl) (unhide HN1) (by intro u hu; simp at hu; subst hu; rfl) (by have := unhide HIN; unfold maxLen; omega) (by have := unhide HIN; omega) (unhide HS1) ?_); intro v2 w2 ho2 hgr2 _; have HO2 := hide ho2; have HW2 := hide (below_own (unhide HB1) (unhide HA1) (Nat.le_refl _) hgr2); clear ho2 hgr2)
        go_roundg (gk - 1)
        case measure => have := unhide HIN; omega
        case rel => exact ⟨i + 1, F ++ [120], by go_num, by have := unhide HIN; omega, by have := unhide HIN; simp; omega, ⟨by rw [bytesV_app]; simp only [List.length_append, List.length_singleton]; exact unhide HO2, unhide HW2, fun c hc => by rcases List.mem_append.1 hc with h | h; exact (unhide HMB).none c h; simp at h; subst h; decide⟩⟩
      · have hq : ((l[i].toNat : Int) == 60) = false := byte_ne _ 60 h60
        generalize l[i] = c at hc hq h60
        clear hil
        have HA1 := hide ((unhide HALL) c)
        have HS1 := hide ((unhide HSZ) c)
        have HB1 := hide ((unhide HBA) c)
        have HN1 := hide ((unhide HNW) c)
        have H60 := hide h60
        clear h60
        go_wp2_with (at_builtin; go_must (refine wpList_append_own _ (by rfl) _ _ 22 (by rfl) w.heap.size 5 i0 _ 1 1 Tryd.underlying22 hi hz0 hz1 hz2 rfl (by omega) _ F.length (bytesV F) (by rfl) (unhide HA1) ⟨wr.heap.size, 0, none⟩ 1 1 [.int .u8 (c.toNat : Int)] (by rfl) (by rfl) (unhide HN1) (by intro u hu; simp at hu; subst hu; rfl) (by have := unhide HIN; unfold maxLen; omega) (by have := unhide HIN; omega) (unhide HS1) ?_); intro v2 w2 ho2 hgr2 _; have HO2 := hide ho2; have HW2 := hide (below_own (unhide HB1) (unhide HA1) (Nat.le_refl _) hgr2); clear ho2 hgr2)
        go_roundg (gk - 1)
        case measure => have := unhide HIN; omega
        case rel => exact ⟨i + 1, F ++ [c], by go_num, by have := unhide HIN; omega, by have := unhide HIN; simp; omega, ⟨by rw [bytesV_app]; simp only [List.length_append, List.length_singleton]; exact unhide HO2, unhide HW2, fun c' hc => by rcases List.mem_append.1 hc with h | h; exact (unhide HMB).none c' h; simp at h; subst h; exact unhide H60⟩⟩
    · have HFL := hide (show F.length ≤ 500 by omega)
      have HNO := hide hMB.none
      have HO1 := hide ((hMB.own.alloc (.cells row7 9)).alloc (.cells row3 9))
      have HW1 := hide ((hMB.below.alloc hMB.below.size (.cells row7 9)).alloc (by have := hMB.below.size; simp; omega) (.cells row3 9))
      have hqc : ((wr.alloc (.cells row7 9)).alloc (.cells row3 9)).cell? ⟨wr.heap.size + 1, r, none⟩ = some (.string QB) := row3_cell wr r (unhide HR).1 QB (unhide HR).2
      have HNM := hide (fun (w2 : World) (hg : ((wr.alloc (.cells row7 9)).alloc (.cells row3 9)).grownBy w2 u7.ownBlock) => row7_cell wr w2 u7 (fun e => by have := (own_ge hMB.own e.symm).2; omega) hg)
      have hrz : (r : Int) < 3 := by have := unhide HR; omega
      have hqs : QB.size ≤ 1 := by rw [← len_data, (unhide HR).2]; exact qu_len r
      by_cases hil : i < l.length
      · have hiz : (i : Int) < (l.length : Int) := by omega
        have hi5 : ¬ (i : Int) < 500 := by omega
        clear hMB hin hig hil hFl
        go_wp2_with (first
          | (go_at_call 13; refine (unhide HP).mono ?_; rintro e w5 ⟨rfl, hb5⟩; have HW5 := hide ((unhide HW4).trans (hb5.mono (unhide HW4).size)); clear hb5)
          | (at_builtin; have _x := unhide HO3; go_must (refine wpList_append_own_string _ (by rfl) _ _ 22 9 (by rfl) w.heap.size 5 i0 Tryd.underlying22 Tryd.underlying9 hi hz0 hz1 hz2 _ _ _ (by rfl) (unhide HO3) _ (by rfl) (unhide HZ3).1 (unhide HZ3).2 (unhide HW3).size ?_); intro v4 w4 ho4 hgr4 _; have HW4 := hide (below_own (unhide HW3) (unhide HO3) (Nat.le_refl _) hgr4); have HO4 := own_end3 ho4 (unhide HFL) (unhide HNO) (unhide HR).1; obtain ⟨g4, c4, N4, rfl, hp4⟩ := HO4; have HP := hide hp4; clear ho4 hgr4 hp4)
          | (at_builtin; have _x := unhide HO2; go_must (refine wpList_append_own_string _ (by rfl) _ _ 22 9 (by rfl) w.heap.size 5 i0 Tryd.underlying22 Tryd.underlying9 hi hz0 hz1 hz2 _ _ _ (by rfl) (unhide HO2) _ (by rfl) (by exact (name_room3 (unhide HFL) (unhide HR)).1) (by exact (name_room3 (unhide HFL) (unhide HR)).2) (unhide HW2).size ?_); intro v3 w3 ho3 hgr3 _; have HW3 := hide (below_own (unhide HW2) (unhide HO2) (Nat.le_refl _) hgr3); have HO3 := hide (own_name3 ho3 (unhide HR)); have HZ3 := hide (end_room3 (r := r) (unhide HFL)); clear ho3 hgr3)
          | (at_builtin; go_must (refine wpList_append_own_string _ (by rfl) _ _ 22 9 (by rfl) w.heap.size 5 i0 Tryd.underlying22 Tryd.underlying9 hi hz0 hz1 hz2 _ _ _ (by rfl) (unhide HO1) _ (by rfl) (by exact (ahead_room (unhide HFL)).1) (by exact (ahead_room (unhide HFL)).2) (unhide HW1).size ?_); intro v2 w2 ho2 hgr2 _; have HO2 := hide (own_ahead ho2); have HW2 := hide (below_own (unhide HW1) (unhide HO1) (Nat.le_refl _) hgr2); have hnm2 : w2.cell? ⟨wr.heap.size, 3, none⟩ = some (.string ⟨#[119, 105, 110, 100, 111, 119, 115, 45, 49, 50, 53, 50]⟩) := ((unhide HNM) w2 hgr2) 3 ⟨#[119, 105, 110, 100, 111, 119, 115, 45, 49, 50, 53, 50]⟩ rfl; clear ho2 hgr2))
        go_ret
        exact ⟨rfl, unhide HW5⟩
      · have hiz : ¬ (i : Int) < (l.length : Int) := by omega
        clear hMB hin hig hil hFl
        go_wp2_with (first
          | (go_at_call 13; refine (unhide HP).mono ?_; rintro e w5 ⟨rfl, hb5⟩; have HW5 := hide ((unhide HW4).trans (hb5.mono (unhide HW4).size)); clear hb5)
          | (at_builtin; have _x := unhide HO3; go_must (refine wpList_append_own_string _ (by rfl) _ _ 22 9 (by rfl) w.heap.size 5 i0 Tryd.underlying22 Tryd.underlying9 hi hz0 hz1 hz2 _ _ _ (by rfl) (unhide HO3) _ (by rfl) (unhide HZ3).1 (unhide HZ3).2 (unhide HW3).size ?_); intro v4 w4 ho4 hgr4 _; have HW4 := hide (below_own (unhide HW3) (unhide HO3) (Nat.le_refl _) hgr4); have HO4 := own_end3 ho4 (unhide HFL) (unhide HNO) (unhide HR).1; obtain ⟨g4, c4, N4, rfl, hp4⟩ := HO4; have HP := hide hp4; clear ho4 hgr4 hp4)
          | (at_builtin; have _x := unhide HO2; go_must (refine wpList_append_own_string _ (by rfl) _ _ 22 9 (by rfl) w.heap.size 5 i0 Tryd.underlying22 Tryd.underlying9 hi hz0 hz1 hz2 _ _ _ (by rfl) (unhide HO2) _ (by rfl) (by exact (name_room3 (unhide HFL) (unhide HR)).1) (by exact (name_room3 (unhide HFL) (unhide HR)).2) (unhide HW2).size ?_); intro v3 w3 ho3 hgr3 _; have HW3 := hide (below_own (unhide HW2) (unhide HO2) (Nat.le_refl _) hgr3); have HO3 := hide (own_name3 ho3 (unhide HR)); have HZ3 := hide (end_room3 (r := r) (unhide HFL)); clear ho3 hgr3)
          | (at_builtin; go_must (refine wpList_append_own_string _ (by rfl) _ _ 22 9 (by rfl) w.heap.size 5 i0 Tryd.underlying22 Tryd.underlying9 hi hz0 hz1 hz2 _ _ _ (by rfl) (unhide HO1) _ (by rfl) (by exact (ahead_room (unhide HFL)).1) (by exact (ahead_room (unhide HFL)).2) (unhide HW1).size ?_); intro v2 w2 ho2 hgr2 _; have HO2 := hide (own_ahead ho2); have HW2 := hide (below_own (unhide HW1) (unhide HO1) (Nat.le_refl _) hgr2); have hnm2 : w2.cell? ⟨wr.heap.size, 3, none⟩ = some (.string ⟨#[119, 105, 110, 100, 111, 119, 115, 45, 49, 50, 53, 50]⟩) := ((unhide HNM) w2 hgr2) 3 ⟨#[119, 105, 110, 100, 111, 119, 115, 45, 49, 50, 53, 50]⟩ rfl; clear ho2 hgr2))
        go_ret
        exact ⟨rfl, unhide HW5⟩

theorem name_room4 {F : List UInt8} {r : Nat} {QB : ByteArray} (h : F.length ≤ 500) (hR : r < 3 ∧ QB.data.toList = quL r) : (F ++ aheadL).length + (QB ++ ⟨#[105, 115, 111, 45, 56, 56, 53, 57, 45, 49, 53]⟩ ++ QB).size ≤ maxLen ∧ (F ++ aheadL).length + (QB ++ ⟨#[105, 115, 111, 45, 56, 56, 53, 57, 45, 49, 53]⟩ ++ QB).size ≤ 140737488355328 := by
  have h1 := (name_size (n := 4) (NMB := ⟨#[105, 115, 111, 45, 56, 56, 53, 57, 45, 49, 53]⟩) hR rfl).1
  have h2 := qu_len r
  have h3 := nm_len 4
  have h4 : aheadL.length = 14 := rfl
  rw [h1]
  simp only [List.length_append, h4]
  unfold maxLen
  omega
theorem own_name4 {w3 : World} {k r : Nat} {v : Value} {F : List UInt8} {QB : ByteArray} (ho : w3.ownsRow k 5 1 v ((F ++ aheadL).length + (QB ++ ⟨#[105, 115, 111, 45, 56, 56, 53, 57, 45, 49, 53]⟩ ++ QB).size) (bytesV (F ++ aheadL) ++ strCells (QB ++ ⟨#[105, 115, 111, 45, 56, 56, 53, 57, 45, 49, 53]⟩ ++ QB))) (hR : r < 3 ∧ QB.data.toList = quL r) : w3.ownsRow k 5 1 v (F ++ aheadL ++ (quL r ++ nmL 4 ++ quL r)).length (bytesV (F ++ aheadL ++ (quL r ++ nmL 4 ++ quL r))) := by
  have h1 := name_size (n := 4) (NMB := ⟨#[105, 115, 111, 45, 56, 56, 53, 57, 45, 49, 53]⟩) hR rfl
  rw [strC, h1.1, h1.2, ← bytesV_app] at ho
  rw [List.length_append]
  exact ho
theorem end_room4 {F : List UInt8} {r : Nat} (h : F.length ≤ 500) : (F ++ aheadL ++ (quL r ++ nmL 4 ++ quL r)).length + (⟨#[32, 62]⟩ : ByteArray).size ≤ maxLen ∧ (F ++ aheadL ++ (quL r ++ nmL 4 ++ quL r)).length + (⟨#[32, 62]⟩ : ByteArray).size ≤ 140737488355328 := by
  have h2 := qu_len r
  have h3 := nm_len 4
  have h4 : aheadL.length = 14 := rfl
  have h5 : (⟨#[32, 62]⟩ : ByteArray).size = 2 := rfl
  rw [h5]
  simp only [List.length_append, h4]
  unfold maxLen
  omega
theorem own_end4 {w4 : World} {k r : Nat} {v : Value} {F : List UInt8} (ho : w4.ownsRow k 5 1 v ((F ++ aheadL ++ (quL r ++ nmL 4 ++ quL r)).length + (⟨#[32, 62]⟩ : ByteArray).size) (bytesV (F ++ aheadL ++ (quL r ++ nmL 4 ++ quL r)) ++ strCells ⟨#[32, 62]⟩)) (hF : F.length ≤ 500) (hn : ∀ c ∈ F, c ≠ 60) (hr : r < 3) :
    ∃ g c N, v = .slice (some ⟨g, 0, none⟩) N c ∧ Calls Tryd.prog 13 #[.slice (some ⟨g, 0, none⟩) N c] w4 fun e w' => e = .returned (.tuple #[.int .i64 4, .int .i64 0]) ∧ Below w4.heap.size w4 w' := by
  have e1 : F ++ aheadL ++ (quL r ++ nmL 4 ++ quL r) ++ endL = F ++ sufL 4 r := by unfold sufL; simp only [List.append_assoc]
  have ho2 : w4.ownsRow k 5 1 v (F ++ sufL 4 r).length (bytesV (F ++ sufL 4 r)) := by
    rw [← e1, List.length_append, bytesV_app (F ++ aheadL ++ (quL r ++ nmL 4 ++ quL r))]
    exact ho
  obtain ⟨g, c, hv, hby, hc⟩ := own_some ho2 (by rw [List.length_append]; have := (suf_all 4 (by decide) r hr).2.1.2; omega)
  have hp := prescan_any w4 (some ⟨g, 0, none⟩) c (F ++ sufL 4 r) hby hc
  rw [meta_tells F hn hF 4 r (by decide) hr] at hp
  exact ⟨g, c, _, hv, hp⟩

set_option maxRecDepth 8000 in
set_option maxHeartbeats 1000000 in
theorem meta_walk4 (a : Option Addr) (cap : Nat) (l : List UInt8) (w : World) (hb : BytesIn w a l) (hm : l.length ≤ 140737488351232) (e q : UInt8) (r : Nat) (hr : r < 3) (QB : ByteArray) (hQB : QB.data.toList = quL r) (hq3 : Int.tmod (q.toNat : Int) 3 = (r : Int)) (hq7 : Int.tmod (e.toNat : Int) 7 = 4) :
    Calls Tryd.prog 9 #[.slice a l.length cap, .int .u8 (e.toNat : Int), .int .u8 (q.toNat : Int)] w fun e w' => e = .returned (.bool true) ∧ Below w.heap.size w w' := by
  have HBY := hide hb
  have HM := hide hm
  have HR := hide (And.intro hr hQB)
  clear hb hm hr hQB
  obtain ⟨i0, hi, hz0, hz1, hz2⟩ := info_parts info5
  go_enter Tryd.func9, Tryd.ntmps9
  go_wp2_with fail
  go_loopg [7, 8] (min l.length 500) (fun gx s7 s8 wx => ∃ (i : Nat) (F : List UInt8), s8 = .int .i64 i ∧ i + gx = min l.length 500 ∧ F.length = i ∧ MetaB w wx s7 F)
  case atStart => exact ⟨0, [], rfl, by omega, rfl, ⟨World.ownsRow_nil _ _ _ _, Below.refl _ _, fun c hc => by cases hc⟩⟩
  case round =>
    obtain ⟨i, F, rfl, hig, hFl, hMB⟩ := hrel
    by_cases hin : i < min l.length 500
    · have hiz : (i : Int) < (l.length : Int) := by omega
      have hi5 : (i : Int) < 500 := by omega
      have hil : i < l.length := by omega
      have hw1 : IntKind.i64.wrap ((i : Int) + 1) = (i : Int) + 1 := wrap_add i 1 (by omega) (by omega)
      obtain ⟨b, off, rfl, hc⟩ := ((unhide HBY).below hMB.below).cells i l[i] (List.getElem?_eq_getElem hil)
      have HMB := hide hMB
      have HIN := hide (And.intro hin (And.intro hig hFl))
      have HALL := hide (fun (x : UInt8) => (hMB.own.alloc (.cells #[.int .u8 (x.toNat : Int)] 5)))
      have HSZ := hide (fun (x : UInt8) => (show w.heap.size ≤ (wr.alloc (.cells #[.int .u8 (x.toNat : Int)] 5)).heap.size by have := hMB.below.size; simp; omega))
      have HBA := hide (fun (x : UInt8) => hMB.below.alloc hMB.below.size (.cells #[.int .u8 (x.toNat : Int)] 5))
      have HNW := hide (fun (x : UInt8) => news_of (l := [x]) (bytes_new wr [x] (0, 0)) wr.heap.size 0 rfl)
      clear hMB hin hig
      by_cases h60 : l[i] = 60
      · have hq : ((l[i].toNat : Int) == 60) = true := by rw [h60]; rfl
        generalize l[i] = c at hc hq
        clear h60 hil
        have h120 : ((120 : UInt8).toNat : Int) = 120 := rfl
        have HA1 := hide ((unhide HALL) 120)
        have HS1 := hide ((unhide HSZ) 120)
        have HB1 := hide ((unhide HBA) 120)
        rw [h120] at HA1 HS1 HB1
        have HN1 : Hid (∀ j u, ([.int .u8 120] : List Value)[j]? = some u → (wr.alloc (.cells #[.int .u8 120] 5)).cell? ((⟨wr.heap.size, 0, none⟩ : Addr).add j) = some u) := hide (news_of (l := [120]) (bytes_new wr [120] (0, 0)) wr.heap.size 0 rfl)
        clear h120
        go_wp2_with (at_builtin; go_must (refine wpList_append_own _ (by rfl) _ _ 22 (by rfl) w.heap.size 5 i0 _ 1 1 Tryd.underlying22 hi hz0 hz1 hz2 rfl (by omega) _ F.length (bytesV F) (by rfl) (unhide HA1) ⟨wr.heap.size, 0, none⟩ 1 1 [.int .u8 120] (by rfl) (by rfl) (unhide HN1) (by intro u hu; simp at hu; subst hu; rfl) (by have := unhide HIN; unfold maxLen; omega) (by have := unhide HIN; omega) (unhide HS1) ?_); intro v2 w2 ho2 hgr2 _; have HO2 := hide ho2; have HW2 := hide (below_own (unhide HB1) (unhide HA1) (Nat.le_refl _) hgr2); clear ho2 hgr2)
        go_roundg (gk - 1)
        case measure => have := unhide HIN; omega
        case rel => exact ⟨i + 1, F ++ [120], by go_num, by have := unhide HIN; omega, by have := unhide HIN; simp; omega, ⟨by rw [bytesV_app]; simp only [List.length_append, List.length_singleton]; exact unhide HO2, unhide HW2, fun c hc => by rcases List.mem_append.1 hc with h | h; exact (unhide HMB).none c h; simp at h; subst h; decide⟩⟩
      · have hq : ((l[i].toNat : Int) == 60) = false := byte_ne _ 60 h60
        generalize l[i] = c at hc hq h60
        clear hil
        have HA1 := hide ((unhide HALL) c)
        have HS1 := hide ((unhide HSZ) c)
        have HB1 := hide ((unhide HBA) c)
        have HN1 := hide ((unhide HNW) c)
        have H60 := hide h60
        clear h60
        go_wp2_with (at_builtin; go_must (refine wpList_append_own _ (by rfl) _ _ 22 (by rfl) w.heap.size 5 i0 _ 1 1 Tryd.underlying22 hi hz0 hz1 hz2 rfl (by omega) _ F.length (bytesV F) (by rfl) (unhide HA1) ⟨wr.heap.size, 0, none⟩ 1 1 [.int .u8 (c.toNat : Int)] (by rfl) (by rfl) (unhide HN1) (by intro u hu; simp at hu; subst hu; rfl) (by have := unhide HIN; unfold maxLen; omega) (by have := unhide HIN; omega) (unhide HS1) ?_); intro v2 w2 ho2 hgr2 _; have HO2 := hide ho2; have HW2 := hide (below_own (unhide HB1) (unhide HA1) (Nat.le_refl _) hgr2); clear ho2 hgr2)
        go_roundg (gk - 1)
        case measure => have := unhide HIN; omega
        case rel => exact ⟨i + 1, F ++ [c], by go_num, by have := unhide HIN; omega, by have := unhide HIN; simp; omega, ⟨by rw [bytesV_app]; simp only [List.length_append, List.length_singleton]; exact unhide HO2, unhide HW2, fun c' hc => by rcases List.mem_append.1 hc with h | h; exact (unhide HMB).none c' h; simp at h; subst h; exact unhide H60⟩⟩
    · have HFL := hide (show F.length ≤ 500 by omega)
      have HNO := hide hMB.none
      have HO1 := hide ((hMB.own.alloc (.cells row7 9)).alloc (.cells row3 9))
      have HW1 := hide ((hMB.below.alloc hMB.below.size (.cells row7 9)).alloc (by have := hMB.below.size; simp; omega) (.cells row3 9))
      have hqc : ((wr.alloc (.cells row7 9)).alloc (.cells row3 9)).cell? ⟨wr.heap.size + 1, r, none⟩ = some (.string QB) := row3_cell wr r (unhide HR).1 QB (unhide HR).2
      have HNM := hide (fun (w2 : World) (hg : ((wr.alloc (.cells row7 9)).alloc (.cells row3 9)).grownBy w2 u7.ownBlock) => row7_cell wr w2 u7 (fun e => by have := (own_ge hMB.own e.symm).2; omega) hg)
      have hrz : (r : Int) < 3 := by have := unhide HR; omega
      have hqs : QB.size ≤ 1 := by rw [← len_data, (unhide HR).2]; exact qu_len r
      by_cases hil : i < l.length
      · have hiz : (i : Int) < (l.length : Int) := by omega
        have hi5 : ¬ (i : Int) < 500 := by omega
        clear hMB hin hig hil hFl
        go_wp2_with (first
          | (go_at_call 13; refine (unhide HP).mono ?_; rintro e w5 ⟨rfl, hb5⟩; have HW5 := hide ((unhide HW4).trans (hb5.mono (unhide HW4).size)); clear hb5)
          | (at_builtin; have _x := unhide HO3; go_must (refine wpList_append_own_string _ (by rfl) _ _ 22 9 (by rfl) w.heap.size 5 i0 Tryd.underlying22 Tryd.underlying9 hi hz0 hz1 hz2 _ _ _ (by rfl) (unhide HO3) _ (by rfl) (unhide HZ3).1 (unhide HZ3).2 (unhide HW3).size ?_); intro v4 w4 ho4 hgr4 _; have HW4 := hide (below_own (unhide HW3) (unhide HO3) (Nat.le_refl _) hgr4); have HO4 := own_end4 ho4 (unhide HFL) (unhide HNO) (unhide HR).1; obtain ⟨g4, c4, N4, rfl, hp4⟩ := HO4; have HP := hide hp4; clear ho4 hgr4 hp4)
          | (at_builtin; have _x := unhide HO2; go_must (refine wpList_append_own_string _ (by rfl) _ _ 22 9 (by rfl) w.heap.size 5 i0 Tryd.underlying22 Tryd.underlying9 hi hz0 hz1 hz2 _ _ _ (by rfl) (unhide HO2) _ (by rfl) (by exact (name_room4 (unhide HFL) (unhide HR)).1) (by exact (name_room4 (unhide HFL) (unhide HR)).2) (unhide HW2).size ?_); intro v3 w3 ho3 hgr3 _; have HW3 := hide (below_own (unhide HW2) (unhide HO2) (Nat.le_refl _) hgr3); have HO3 := hide (own_name4 ho3 (unhide HR)); have HZ3 := hide (end_room4 (r := r) (unhide HFL)); clear ho3 hgr3)
          | (at_builtin; go_must (refine wpList_append_own_string _ (by rfl) _ _ 22 9 (by rfl) w.heap.size 5 i0 Tryd.underlying22 Tryd.underlying9 hi hz0 hz1 hz2 _ _ _ (by rfl) (unhide HO1) _ (by rfl) (by exact (ahead_room (unhide HFL)).1) (by exact (ahead_room (unhide HFL)).2) (unhide HW1).size ?_); intro v2 w2 ho2 hgr2 _; have HO2 := hide (own_ahead ho2); have HW2 := hide (below_own (unhide HW1) (unhide HO1) (Nat.le_refl _) hgr2); have hnm2 : w2.cell? ⟨wr.heap.size, 4, none⟩ = some (.string ⟨#[105, 115, 111, 45, 56, 56, 53, 57, 45, 49, 53]⟩) := ((unhide HNM) w2 hgr2) 4 ⟨#[105, 115, 111, 45, 56, 56, 53, 57, 45, 49, 53]⟩ rfl; clear ho2 hgr2))
        go_ret
        exact ⟨rfl, unhide HW5⟩
      · have hiz : ¬ (i : Int) < (l.length : Int) := by omega
        clear hMB hin hig hil hFl
        go_wp2_with (first
          | (go_at_call 13; refine (unhide HP).mono ?_; rintro e w5 ⟨rfl, hb5⟩; have HW5 := hide ((unhide HW4).trans (hb5.mono (unhide HW4).size)); clear hb5)
          | (at_builtin; have _x := unhide HO3; go_must (refine wpList_append_own_string _ (by rfl) _ _ 22 9 (by rfl) w.heap.size 5 i0 Tryd.underlying22 Tryd.underlying9 hi hz0 hz1 hz2 _ _ _ (by rfl) (unhide HO3) _ (by rfl) (unhide HZ3).1 (unhide HZ3).2 (unhide HW3).size ?_); intro v4 w4 ho4 hgr4 _; have HW4 := hide (below_own (unhide HW3) (unhide HO3) (Nat.le_refl _) hgr4); have HO4 := own_end4 ho4 (unhide HFL) (unhide HNO) (unhide HR).1; obtain ⟨g4, c4, N4, rfl, hp4⟩ := HO4; have HP := hide hp4; clear ho4 hgr4 hp4)
          | (at_builtin; have _x := unhide HO2; go_must (refine wpList_append_own_string _ (by rfl) _ _ 22 9 (by rfl) w.heap.size 5 i0 Tryd.underlying22 Tryd.underlying9 hi hz0 hz1 hz2 _ _ _ (by rfl) (unhide HO2) _ (by rfl) (by exact (name_room4 (unhide HFL) (unhide HR)).1) (by exact (name_room4 (unhide HFL) (unhide HR)).2) (unhide HW2).size ?_); intro v3 w3 ho3 hgr3 _; have HW3 := hide (below_own (unhide HW2) (unhide HO2) (Nat.le_refl _) hgr3); have HO3 := hide (own_name4 ho3 (unhide HR)); have HZ3 := hide (end_room4 (r := r) (unhide HFL)); clear ho3 hgr3)
          | (at_builtin; go_must (refine wpList_append_own_string _ (by rfl) _ _ 22 9 (by rfl) w.heap.size 5 i0 Tryd.underlying22 Tryd.underlying9 hi hz0 hz1 hz2 _ _ _ (by rfl) (unhide HO1) _ (by rfl) (by exact (ahead_room (unhide HFL)).1) (by exact (ahead_room (unhide HFL)).2) (unhide HW1).size ?_); intro v2 w2 ho2 hgr2 _; have HO2 := hide (own_ahead ho2); have HW2 := hide (below_own (unhide HW1) (unhide HO1) (Nat.le_refl _) hgr2); have hnm2 : w2.cell? ⟨wr.heap.size, 4, none⟩ = some (.string ⟨#[105, 115, 111, 45, 56, 56, 53, 57, 45, 49, 53]⟩) := ((unhide HNM) w2 hgr2) 4 ⟨#[105, 115, 111, 45, 56, 56, 53, 57, 45, 49, 53]⟩ rfl; clear ho2 hgr2))
        go_ret
        exact ⟨rfl, unhide HW5⟩

theorem name_room5 {F : List UInt8} {r : Nat} {QB : ByteArray} (h : F.length ≤ 500) (hR : r < 3 ∧ QB.data.toList = quL r) : (F ++ aheadL).length + (QB ++ ⟨#[105, 115, 111, 45, 56, 56, 53, 57, 45, 53]⟩ ++ QB).size ≤ maxLen ∧ (F ++ aheadL).length + (QB ++ ⟨#[105, 115, 111, 45, 56, 56, 53, 57, 45, 53]⟩ ++ QB).size ≤ 140737488355328 := by
  have h1 := (name_size (n := 5) (NMB := ⟨#[105, 115, 111, 45, 56, 56, 53, 57, 45, 53]⟩) hR rfl).1
  have h2 := qu_len r
  have h3 := nm_len 5
  have h4 : aheadL.length = 14 := rfl
  rw [h1]
  simp only [List.length_append, h4]
  unfold maxLen
  omega
theorem own_name5 {w3 : World} {k r : Nat} {v : Value} {F : List UInt8} {QB : ByteArray} (ho : w3.ownsRow k 5 1 v ((F ++ aheadL).length + (QB ++ ⟨#[105, 115, 111, 45, 56, 56, 53, 57, 45, 53]⟩ ++ QB).size) (bytesV (F ++ aheadL) ++ strCells (QB ++ ⟨#[105, 115, 111, 45, 56, 56, 53, 57, 45, 53]⟩ ++ QB))) (hR : r < 3 ∧ QB.data.toList = quL r) : w3.ownsRow k 5 1 v (F ++ aheadL ++ (quL r ++ nmL 5 ++ quL r)).length (bytesV (F ++ aheadL ++ (quL r ++ nmL 5 ++ quL r))) := by
  have h1 := name_size (n := 5) (NMB := ⟨#[105, 115, 111, 45, 56, 56, 53, 57, 45, 53]⟩) hR rfl
  rw [strC, h1.1, h1.2, ← bytesV_app] at ho
  rw [List.length_append]
  exact ho
theorem end_room5 {F : List UInt8} {r : Nat} (h : F.length ≤ 500) : (F ++ aheadL ++ (quL r ++ nmL 5 ++ quL r)).length + (⟨#[32, 62]⟩ : ByteArray).size ≤ maxLen ∧ (F ++ aheadL ++ (quL r ++ nmL 5 ++ quL r)).length + (⟨#[32, 62]⟩ : ByteArray).size ≤ 140737488355328 := by
  have h2 := qu_len r
  have h3 := nm_len 5
  have h4 : aheadL.length = 14 := rfl
  have h5 : (⟨#[32, 62]⟩ : ByteArray).size = 2 := rfl
  rw [h5]
  simp only [List.length_append, h4]
  unfold maxLen
  omega
theorem own_end5 {w4 : World} {k r : Nat} {v : Value} {F : List UInt8} (ho : w4.ownsRow k 5 1 v ((F ++ aheadL ++ (quL r ++ nmL 5 ++ quL r)).length + (⟨#[32, 62]⟩ : ByteArray).size) (bytesV (F ++ aheadL ++ (quL r ++ nmL 5 ++ quL r)) ++ strCells ⟨#[32, 62]⟩)) (hF : F.length ≤ 500) (hn : ∀ c ∈ F, c ≠ 60) (hr : r < 3) :
    ∃ g c N, v = .slice (some ⟨g, 0, none⟩) N c ∧ Calls Tryd.prog 13 #[.slice (some ⟨g, 0, none⟩) N c] w4 fun e w' => e = .returned (.tuple #[.int .i64 5, .int .i64 0]) ∧ Below w4.heap.size w4 w' := by
  have e1 : F ++ aheadL ++ (quL r ++ nmL 5 ++ quL r) ++ endL = F ++ sufL 5 r := by unfold sufL; simp only [List.append_assoc]
  have ho2 : w4.ownsRow k 5 1 v (F ++ sufL 5 r).length (bytesV (F ++ sufL 5 r)) := by
    rw [← e1, List.length_append, bytesV_app (F ++ aheadL ++ (quL r ++ nmL 5 ++ quL r))]
    exact ho
  obtain ⟨g, c, hv, hby, hc⟩ := own_some ho2 (by rw [List.length_append]; have := (suf_all 5 (by decide) r hr).2.1.2; omega)
  have hp := prescan_any w4 (some ⟨g, 0, none⟩) c (F ++ sufL 5 r) hby hc
  rw [meta_tells F hn hF 5 r (by decide) hr] at hp
  exact ⟨g, c, _, hv, hp⟩

set_option maxRecDepth 8000 in
set_option maxHeartbeats 1000000 in
theorem meta_walk5 (a : Option Addr) (cap : Nat) (l : List UInt8) (w : World) (hb : BytesIn w a l) (hm : l.length ≤ 140737488351232) (e q : UInt8) (r : Nat) (hr : r < 3) (QB : ByteArray) (hQB : QB.data.toList = quL r) (hq3 : Int.tmod (q.toNat : Int) 3 = (r : Int)) (hq7 : Int.tmod (e.toNat : Int) 7 = 5) :
    Calls Tryd.prog 9 #[.slice a l.length cap, .int .u8 (e.toNat : Int), .int .u8 (q.toNat : Int)] w fun e w' => e = .returned (.bool true) ∧ Below w.heap.size w w' := by
  have HBY := hide hb
  have HM := hide hm
  have HR := hide (And.intro hr hQB)
  clear hb hm hr hQB
  obtain ⟨i0, hi, hz0, hz1, hz2⟩ := info_parts info5
  go_enter Tryd.func9, Tryd.ntmps9
  go_wp2_with fail
  go_loopg [7, 8] (min l.length 500) (fun gx s7 s8 wx => ∃ (i : Nat) (F : List UInt8), s8 = .int .i64 i ∧ i + gx = min l.length 500 ∧ F.length = i ∧ MetaB w wx s7 F)
  case atStart => exact ⟨0, [], rfl, by omega, rfl, ⟨World.ownsRow_nil _ _ _ _, Below.refl _ _, fun c hc => by cases hc⟩⟩
  case round =>
    obtain ⟨i, F, rfl, hig, hFl, hMB⟩ := hrel
    by_cases hin : i < min l.length 500
    · have hiz : (i : Int) < (l.length : Int) := by omega
      have hi5 : (i : Int) < 500 := by omega
      have hil : i < l.length := by omega
      have hw1 : IntKind.i64.wrap ((i : Int) + 1) = (i : Int) + 1 := wrap_add i 1 (by omega) (by omega)
      obtain ⟨b, off, rfl, hc⟩ := ((unhide HBY).below hMB.below).cells i l[i] (List.getElem?_eq_getElem hil)
      have HMB := hide hMB
      have HIN := hide (And.intro hin (And.intro hig hFl))
      have HALL := hide (fun (x : UInt8) => (hMB.own.alloc (.cells #[.int .u8 (x.toNat : Int)] 5)))
      have HSZ := hide (fun (x : UInt8) => (show w.heap.size ≤ (wr.alloc (.cells #[.int .u8 (x.toNat : Int)] 5)).heap.size by have := hMB.below.size; simp; omega))
      have HBA := hide (fun (x : UInt8) => hMB.below.alloc hMB.below.size (.cells #[.int .u8 (x.toNat : Int)] 5))
      have HNW := hide (fun (x : UInt8) => news_of (l := [x]) (bytes_new wr [x] (0, 0)) wr.heap.size 0 rfl)
      clear hMB hin hig
      by_cases h60 : l[i] = 60
      · have hq : ((l[i].toNat : Int) == 60) = true := by rw [h60]; rfl
        generalize l[i] = c at hc hq
        clear h60 hil
        have h120 : ((120 : UInt8).toNat : Int) = 120 := rfl
        have HA1 := hide ((unhide HALL) 120)
        have HS1 := hide ((unhide HSZ) 120)
        have HB1 := hide ((unhide HBA) 120)
        rw [h120] at HA1 HS1 HB1
        have HN1 : Hid (∀ j u, ([.int .u8 120] : List Value)[j]? = some u → (wr.alloc (.cells #[.int .u8 120] 5)).cell? ((⟨wr.heap.size, 0, none⟩ : Addr).add j) = some u) := hide (news_of (l := [120]) (bytes_new wr [120] (0, 0)) wr.heap.size 0 rfl)
        clear h120
        go_wp2_with (at_builtin; go_must (refine wpList_append_own _ (by rfl) _ _ 22 (by rfl) w.heap.size 5 i0 _ 1 1 Tryd.underlying22 hi hz0 hz1 hz2 rfl (by omega) _ F.length (bytesV F) (by rfl) (unhide HA1) ⟨wr.heap.size, 0, none⟩ 1 1 [.int .u8 120] (by rfl) (by rfl) (unhide HN1) (by intro u hu; simp at hu; subst hu; rfl) (by have := unhide HIN; unfold maxLen; omega) (by have := unhide HIN; omega) (unhide HS1) ?_); intro v2 w2 ho2 hgr2 _; have HO2 := hide ho2; have HW2 := hide (below_own (unhide HB1) (unhide HA1) (Nat.le_refl _) hgr2); clear ho2 hgr2)
        go_roundg (gk - 1)
        case measure => have := unhide HIN; omega
        case rel => exact ⟨i + 1, F ++ [120], by go_num, by have := unhide HIN; omega, by have := unhide HIN; simp; omega, ⟨by rw [bytesV_app]; simp only [List.length_append, List.length_singleton]; exact unhide HO2, unhide HW2, fun c hc => by rcases List.mem_append.1 hc with h | h; exact (unhide HMB).none c h; simp at h; subst h; decide⟩⟩
      · have hq : ((l[i].toNat : Int) == 60) = false := byte_ne _ 60 h60
        generalize l[i] = c at hc hq h60
        clear hil
        have HA1 := hide ((unhide HALL) c)
        have HS1 := hide ((unhide HSZ) c)
        have HB1 := hide ((unhide HBA) c)
        have HN1 := hide ((unhide HNW) c)
        have H60 := hide h60
        clear h60
        go_wp2_with (at_builtin; go_must (refine wpList_append_own _ (by rfl) _ _ 22 (by rfl) w.heap.size 5 i0 _ 1 1 Tryd.underlying22 hi hz0 hz1 hz2 rfl (by omega) _ F.length (bytesV F) (by rfl) (unhide HA1) ⟨wr.heap.size, 0, none⟩ 1 1 [.int .u8 (c.toNat : Int)] (by rfl) (by rfl) (unhide HN1) (by intro u hu; simp at hu; subst hu; rfl) (by have := unhide HIN; unfold maxLen; omega) (by have := unhide HIN; omega) (unhide HS1) ?_); intro v2 w2 ho2 hgr2 _; have HO2 := hide ho2; have HW2 := hide (below_own (unhide HB1) (unhide HA1) (Nat.le_refl _) hgr2); clear ho2 hgr2)
        go_roundg (gk - 1)
        case measure => have := unhide HIN; omega
        case rel => exact ⟨i + 1, F ++ [c], by go_num, by have := unhide HIN; omega, by have := unhide HIN; simp; omega, ⟨by rw [bytesV_app]; simp only [List.length_append, List.length_singleton]; exact unhide HO2, unhide HW2, fun c' hc => by rcases List.mem_append.1 hc with h | h; exact (unhide HMB).none c' h; simp at h; subst h; exact unhide H60⟩⟩
    · have HFL := hide (show F.length ≤ 500 by omega)
      have HNO := hide hMB.none
      have HO1 := hide ((hMB.own.alloc (.cells row7 9)).alloc (.cells row3 9))
      have HW1 := hide ((hMB.below.alloc hMB.below.size (.cells row7 9)).alloc (by have := hMB.below.size; simp; omega) (.cells row3 9))
      have hqc : ((wr.alloc (.cells row7 9)).alloc (.cells row3 9)).cell? ⟨wr.heap.size + 1, r, none⟩ = some (.string QB) := row3_cell wr r (unhide HR).1 QB (unhide HR).2
      have HNM := hide (fun (w2 : World) (hg : ((wr.alloc (.cells row7 9)).alloc (.cells row3 9)).grownBy w2 u7.ownBlock) => row7_cell wr w2 u7 (fun e => by have := (own_ge hMB.own e.symm).2; omega) hg)
      have hrz : (r : Int) < 3 := by have := unhide HR; omega
      have hqs : QB.size ≤ 1 := by rw [← len_data, (unhide HR).2]; exact qu_len r
      by_cases hil : i < l.length
      · have hiz : (i : Int) < (l.length : Int) := by omega
        have hi5 : ¬ (i : Int) < 500 := by omega
        clear hMB hin hig hil hFl
        go_wp2_with (first
          | (go_at_call 13; refine (unhide HP).mono ?_; rintro e w5 ⟨rfl, hb5⟩; have HW5 := hide ((unhide HW4).trans (hb5.mono (unhide HW4).size)); clear hb5)
          | (at_builtin; have _x := unhide HO3; go_must (refine wpList_append_own_string _ (by rfl) _ _ 22 9 (by rfl) w.heap.size 5 i0 Tryd.underlying22 Tryd.underlying9 hi hz0 hz1 hz2 _ _ _ (by rfl) (unhide HO3) _ (by rfl) (unhide HZ3).1 (unhide HZ3).2 (unhide HW3).size ?_); intro v4 w4 ho4 hgr4 _; have HW4 := hide (below_own (unhide HW3) (unhide HO3) (Nat.le_refl _) hgr4); have HO4 := own_end5 ho4 (unhide HFL) (unhide HNO) (unhide HR).1; obtain ⟨g4, c4, N4, rfl, hp4⟩ := HO4; have HP := hide hp4; clear ho4 hgr4 hp4)
          | (at_builtin; have _x := unhide HO2; go_must (refine wpList_append_own_string _ (by rfl) _ _ 22 9 (by rfl) w.heap.size 5 i0 Tryd.underlying22 Tryd.underlying9 hi hz0 hz1 hz2 _ _ _ (by rfl) (unhide HO2) _ (by rfl) (by exact (name_room5 (unhide HFL) (unhide HR)).1) (by exact (name_room5 (unhide HFL) (unhide HR)).2) (unhide HW2).size ?_); intro v3 w3 ho3 hgr3 _; have HW3 := hide (below_own (unhide HW2) (unhide HO2) (Nat.le_refl _) hgr3); have HO3 := hide (own_name5 ho3 (unhide HR)); have HZ3 := hide (end_room5 (r := r) (unhide HFL)); clear ho3 hgr3)
          | (at_builtin; go_must (refine wpList_append_own_string _ (by rfl) _ _ 22 9 (by rfl) w.heap.size 5 i0 Tryd.underlying22 Tryd.underlying9 hi hz0 hz1 hz2 _ _ _ (by rfl) (unhide HO1) _ (by rfl) (by exact (ahead_room (unhide HFL)).1) (by exact (ahead_room (unhide HFL)).2) (unhide HW1).size ?_); intro v2 w2 ho2 hgr2 _; have HO2 := hide (own_ahead ho2); have HW2 := hide (below_own (unhide HW1) (unhide HO1) (Nat.le_refl _) hgr2); have hnm2 : w2.cell? ⟨wr.heap.size, 5, none⟩ = some (.string ⟨#[105, 115, 111, 45, 56, 56, 53, 57, 45, 53]⟩) := ((unhide HNM) w2 hgr2) 5 ⟨#[105, 115, 111, 45, 56, 56, 53, 57, 45, 53]⟩ rfl; clear ho2 hgr2))
        go_ret
        exact ⟨rfl, unhide HW5⟩
      · have hiz : ¬ (i : Int) < (l.length : Int) := by omega
        clear hMB hin hig hil hFl
        go_wp2_with (first
          | (go_at_call 13; refine (unhide HP).mono ?_; rintro e w5 ⟨rfl, hb5⟩; have HW5 := hide ((unhide HW4).trans (hb5.mono (unhide HW4).size)); clear hb5)
          | (at_builtin; have _x := unhide HO3; go_must (refine wpList_append_own_string _ (by rfl) _ _ 22 9 (by rfl) w.heap.size 5 i0 Tryd.underlying22 Tryd.underlying9 hi hz0 hz1 hz2 _ _ _ (by rfl) (unhide HO3) _ (by rfl) (unhide HZ3).1 (unhide HZ3).2 (unhide HW3).size ?_); intro v4 w4 ho4 hgr4 _; have HW4 := hide (below_own (unhide HW3) (unhide HO3) (Nat.le_refl _) hgr4); have HO4 := own_end5 ho4 (unhide HFL) (unhide HNO) (unhide HR).1; obtain ⟨g4, c4, N4, rfl, hp4⟩ := HO4; have HP := hide hp4; clear ho4 hgr4 hp4)
          | (at_builtin; have _x := unhide HO2; go_must (refine wpList_append_own_string _ (by rfl) _ _ 22 9 (by rfl) w.heap.size 5 i0 Tryd.underlying22 Tryd.underlying9 hi hz0 hz1 hz2 _ _ _ (by rfl) (unhide HO2) _ (by rfl) (by exact (name_room5 (unhide HFL) (unhide HR)).1) (by exact (name_room5 (unhide HFL) (unhide HR)).2) (unhide HW2).size ?_); intro v3 w3 ho3 hgr3 _; have HW3 := hide (below_own (unhide HW2) (unhide HO2) (Nat.le_refl _) hgr3); have HO3 := hide (own_name5 ho3 (unhide HR)); have HZ3 := hide (end_room5 (r := r) (unhide HFL)); clear ho3 hgr3)
          | (at_builtin; go_must (refine wpList_append_own_string _ (by rfl) _ _ 22 9 (by rfl) w.heap.size 5 i0 Tryd.underlying22 Tryd.underlying9 hi hz0 hz1 hz2 _ _ _ (by rfl) (unhide HO1) _ (by rfl) (by exact (ahead_room (unhide HFL)).1) (by exact (ahead_room (unhide HFL)).2) (unhide HW1).size ?_); intro v2 w2 ho2 hgr2 _; have HO2 := hide (own_ahead ho2); have HW2 := hide (below_own (unhide HW1) (unhide HO1) (Nat.le_refl _) hgr2); have hnm2 : w2.cell? ⟨wr.heap.size, 5, none⟩ = some (.string ⟨#[105, 115, 111, 45, 56, 56, 53, 57, 45, 53]⟩) := ((unhide HNM) w2 hgr2) 5 ⟨#[105, 115, 111, 45, 56, 56, 53, 57, 45, 53]⟩ rfl; clear ho2 hgr2))
        go_ret
        exact ⟨rfl, unhide HW5⟩

theorem name_room6 {F : List UInt8} {r : Nat} {QB : ByteArray} (h : F.length ≤ 500) (hR : r < 3 ∧ QB.data.toList = quL r) : (F ++ aheadL).length + (QB ++ ⟨#[120, 45, 117, 115, 101, 114, 45, 100, 101, 102, 105, 110, 101, 100]⟩ ++ QB).size ≤ maxLen ∧ (F ++ aheadL).length + (QB ++ ⟨#[120, 45, 117, 115, 101, 114, 45, 100, 101, 102, 105, 110, 101, 100]⟩ ++ QB).size ≤ 140737488355328 := by
  have h1 := (name_size (n := 6) (NMB := ⟨#[120, 45, 117, 115, 101, 114, 45, 100, 101, 102, 105, 110, 101, 100]⟩) hR rfl).1
  have h2 := qu_len r
  have h3 := nm_len 6
  have h4 : aheadL.length = 14 := rfl
  rw [h1]
  simp only [List.length_append, h4]
  unfold maxLen
  omega
theorem own_name6 {w3 : World} {k r : Nat} {v : Value} {F : List UInt8} {QB : ByteArray} (ho : w3.ownsRow k 5 1 v ((F ++ aheadL).length + (QB ++ ⟨#[120, 45, 117, 115, 101, 114, 45, 100, 101, 102, 105, 110, 101, 100]⟩ ++ QB).size) (bytesV (F ++ aheadL) ++ strCells (QB ++ ⟨#[120, 45, 117, 115, 101, 114, 45, 100, 101, 102, 105, 110, 101, 100]⟩ ++ QB))) (hR : r < 3 ∧ QB.data.toList = quL r) : w3.ownsRow k 5 1 v (F ++ aheadL ++ (quL r ++ nmL 6 ++ quL r)).length (bytesV (F ++ aheadL ++ (quL r ++ nmL 6 ++ quL r))) := by
  have h1 := name_size (n := 6) (NMB := ⟨#[120, 45, 117, 115, 101, 114, 45, 100, 101, 102, 105, 110, 101, 100]⟩) hR rfl
  rw [strC, h1.1, h1.2, ← bytesV_app] at ho
  rw [List.length_append]
  exact ho
theorem end_room6 {F : List UInt8} {r : Nat} (h : F.length ≤ 500) : (F ++ aheadL ++ (quL r ++ nmL 6 ++ quL r)).length + (⟨#[32, 62]⟩ : ByteArray).size ≤ maxLen ∧ (F ++ aheadL ++ (quL r ++ nmL 6 ++ quL r)).length + (⟨#[32, 62]⟩ : ByteArray).size ≤ 140737488355328 := by
  have h2 := qu_len r
  have h3 := nm_len 6
  have h4 : aheadL.length = 14 := rfl
  have h5 : (⟨#[32, 62]⟩ : ByteArray).size = 2 := rfl
  rw [h5]
  simp only [List.length_append, h4]
  unfold maxLen
  omega
theorem own_end6 {w4 : World} {k r : Nat} {v : Value} {F : List UInt8} (ho : w4.ownsRow k 5 1 v ((F ++ aheadL ++ (quL r ++ nmL 6 ++ quL r)).length + (⟨#[32, 62]⟩ : ByteArray).size) (bytesV (F ++ aheadL ++ (quL r ++ nmL 6 ++ quL r)) ++ strCells ⟨#[32, 62]⟩)) (hF : F.length ≤ 500) (hn : ∀ c ∈ F, c ≠ 60) (hr : r < 3) :
    ∃ g c N, v = .slice (some ⟨g, 0, none⟩) N c ∧ Calls Tryd.prog 13 #[.slice (some ⟨g, 0, none⟩) N c] w4 fun e w' => e = .returned (.tuple #[.int .i64 3, .int .i64 0]) ∧ Below w4.heap.size w4 w' := by
  have e1 : F ++ aheadL ++ (quL r ++ nmL 6 ++ quL r) ++ endL = F ++ sufL 6 r := by unfold sufL; simp only [List.append_assoc]
  have ho2 : w4.ownsRow k 5 1 v (F ++ sufL 6 r).length (bytesV (F ++ sufL 6 r)) := by
    rw [← e1, List.length_append, bytesV_app (F ++ aheadL ++ (quL r ++ nmL 6 ++ quL r))]
    exact ho
  obtain ⟨g, c, hv, hby, hc⟩ := own_some ho2 (by rw [List.length_append]; have := (suf_all 6 (by decide) r hr).2.1.2; omega)
  have hp := prescan_any w4 (some ⟨g, 0, none⟩) c (F ++ sufL 6 r) hby hc
  rw [meta_tells F hn hF 6 r (by decide) hr] at hp
  exact ⟨g, c, _, hv, hp⟩

set_option maxRecDepth 8000 in
set_option maxHeartbeats 1000000 in
theorem meta_walk6 (a : Option Addr) (cap : Nat) (l : List UInt8) (w : World) (hb : BytesIn w a l) (hm : l.length ≤ 140737488351232) (e q : UInt8) (r : Nat) (hr : r < 3) (QB : ByteArray) (hQB : QB.data.toList = quL r) (hq3 : Int.tmod (q.toNat : Int) 3 = (r : Int)) (hq7 : Int.tmod (e.toNat : Int) 7 = 6) :
    Calls Tryd.prog 9 #[.slice a l.length cap, .int .u8 (e.toNat : Int), .int .u8 (q.toNat : Int)] w fun e w' => e = .returned (.bool true) ∧ Below w.heap.size w w' := by
  have HBY := hide hb
  have HM := hide hm
  have HR := hide (And.intro hr hQB)
  clear hb hm hr hQB
  obtain ⟨i0, hi, hz0, hz1, hz2⟩ := info_parts info5
  go_enter Tryd.func9, Tryd.ntmps9
  go_wp2_with fail
  go_loopg [7, 8] (min l.length 500) (fun gx s7 s8 wx => ∃ (i : Nat) (F : List UInt8), s8 = .int .i64 i ∧ i + gx = min l.length 500 ∧ F.length = i ∧ MetaB w wx s7 F)
  case atStart => exact ⟨0, [], rfl, by omega, rfl, ⟨World.ownsRow_nil _ _ _ _, Below.refl _ _, fun c hc => by cases hc⟩⟩
  case round =>
    obtain ⟨i, F, rfl, hig, hFl, hMB⟩ := hrel
    by_cases hin : i < min l.length 500
    · have hiz : (i : Int) < (l.length : Int) := by omega
      have hi5 : (i : Int) < 500 := by omega
      have hil : i < l.length := by omega
      have hw1 : IntKind.i64.wrap ((i : Int) + 1) = (i : Int) + 1 := wrap_add i 1 (by omega) (by omega)
      obtain ⟨b, off, rfl, hc⟩ := ((unhide HBY).below hMB.below).cells i l[i] (List.getElem?_eq_getElem hil)
      have HMB := hide hMB
      have HIN := hide (And.intro hin (And.intro hig hFl))
      have HALL := hide (fun (x : UInt8) => (hMB.own.alloc (.cells #[.int .u8 (x.toNat : Int)] 5)))
      have HSZ := hide (fun (x : UInt8) => (show w.heap.size ≤ (wr.alloc (.cells #[.int .u8 (x.toNat : Int)] 5)).heap.size by have := hMB.below.size; simp; omega))
      have HBA := hide (fun (x : UInt8) => hMB.below.alloc hMB.below.size (.cells #[.int .u8 (x.toNat : Int)] 5))
      have HNW := hide (fun (x : UInt8) => news_of (l := [x]) (bytes_new wr [x] (0, 0)) wr.heap.size 0 rfl)
      clear hMB hin hig
      by_cases h60 : l[i] = 60
      · have hq : ((l[i].toNat : Int) == 60) = true := by rw [h60]; rfl
        generalize l[i] = c at hc hq
        clear h60 hil
        have h120 : ((120 : UInt8).toNat : Int) = 120 := rfl
        have HA1 := hide ((unhide HALL) 120)
        have HS1 := hide ((unhide HSZ) 120)
        have HB1 := hide ((unhide HBA) 120)
        rw [h120] at HA1 HS1 HB1
        have HN1 : Hid (∀ j u, ([.int .u8 120] : List Value)[j]? = some u → (wr.alloc (.cells #[.int .u8 120] 5)).cell? ((⟨wr.heap.size, 0, none⟩ : Addr).add j) = some u) := hide (news_of (l := [120]) (bytes_new wr [120] (0, 0)) wr.heap.size 0 rfl)
        clear h120
        go_wp2_with (at_builtin; go_must (refine wpList_append_own _ (by rfl) _ _ 22 (by rfl) w.heap.size 5 i0 _ 1 1 Tryd.underlying22 hi hz0 hz1 hz2 rfl (by omega) _ F.length (bytesV F) (by rfl) (unhide HA1) ⟨wr.heap.size, 0, none⟩ 1 1 [.int .u8 120] (by rfl) (by rfl) (unhide HN1) (by intro u hu; simp at hu; subst hu; rfl) (by have := unhide HIN; unfold maxLen; omega) (by have := unhide HIN; omega) (unhide HS1) ?_); intro v2 w2 ho2 hgr2 _; have HO2 := hide ho2; have HW2 := hide (below_own (unhide HB1) (unhide HA1) (Nat.le_refl _) hgr2); clear ho2 hgr2)
        go_roundg (gk - 1)
        case measure => have := unhide HIN; omega
        case rel => exact ⟨i + 1, F ++ [120], by go_num, by have := unhide HIN; omega, by have := unhide HIN; simp; omega, ⟨by rw [bytesV_app]; simp only [List.length_append, List.length_singleton]; exact unhide HO2, unhide HW2, fun c hc => by rcases List.mem_append.1 hc with h | h; exact (unhide HMB).none c h; simp at h; subst h; decide⟩⟩
      · have hq : ((l[i].toNat : Int) == 60) = false := byte_ne _ 60 h60
        generalize l[i] = c at hc hq h60
        clear hil
        have HA1 := hide ((unhide HALL) c)
        have HS1 := hide ((unhide HSZ) c)
        have HB1 := hide ((unhide HBA) c)
        have HN1 := hide ((unhide HNW) c)
        have H60 := hide h60
        clear h60
        go_wp2_with (at_builtin; go_must (refine wpList_append_own _ (by rfl) _ _ 22 (by rfl) w.heap.size 5 i0 _ 1 1 Tryd.underlying22 hi hz0 hz1 hz2 rfl (by omega) _ F.length (bytesV F) (by rfl) (unhide HA1) ⟨wr.heap.size, 0, none⟩ 1 1 [.int .u8 (c.toNat : Int)] (by rfl) (by rfl) (unhide HN1) (by intro u hu; simp at hu; subst hu; rfl) (by have := unhide HIN; unfold maxLen; omega) (by have := unhide HIN; omega) (unhide HS1) ?_); intro v2 w2 ho2 hgr2 _; have HO2 := hide ho2; have HW2 := hide (below_own (unhide HB1) (unhide HA1) (Nat.le_refl _) hgr2); clear ho2 hgr2)
        go_roundg (gk - 1)
        case measure => have := unhide HIN; omega
        case rel => exact ⟨i + 1, F ++ [c], by go_num, by have := unhide HIN; omega, by have := unhide HIN; simp; omega, ⟨by rw [bytesV_app]; simp only [List.length_append, List.length_singleton]; exact unhide HO2, unhide HW2, fun c' hc => by rcases List.mem_append.1 hc with h | h; exact (unhide HMB).none c' h; simp at h; subst h; exact unhide H60⟩⟩
    · have HFL := hide (show F.length ≤ 500 by omega)
      have HNO := hide hMB.none
      have HO1 := hide ((hMB.own.alloc (.cells row7 9)).alloc (.cells row3 9))
      have HW1 := hide ((hMB.below.alloc hMB.below.size (.cells row7 9)).alloc (by have := hMB.below.size; simp; omega) (.cells row3 9))
      have hqc : ((wr.alloc (.cells row7 9)).alloc (.cells row3 9)).cell? ⟨wr.heap.size + 1, r, none⟩ = some (.string QB) := row3_cell wr r (unhide HR).1 QB (unhide HR).2
      have HNM := hide (fun (w2 : World) (hg : ((wr.alloc (.cells row7 9)).alloc (.cells row3 9)).grownBy w2 u7.ownBlock) => row7_cell wr w2 u7 (fun e => by have := (own_ge hMB.own e.symm).2; omega) hg)
      have hrz : (r : Int) < 3 := by have := unhide HR; omega
      have hqs : QB.size ≤ 1 := by rw [← len_data, (unhide HR).2]; exact qu_len r
      by_cases hil : i < l.length
      · have hiz : (i : Int) < (l.length : Int) := by omega
        have hi5 : ¬ (i : Int) < 500 := by omega
        clear hMB hin hig hil hFl
        go_wp2_with (first
          | (go_at_call 13; refine (unhide HP).mono ?_; rintro e w5 ⟨rfl, hb5⟩; have HW5 := hide ((unhide HW4).trans (hb5.mono (unhide HW4).size)); clear hb5)
          | (at_builtin; have _x := unhide HO3; go_must (refine wpList_append_own_string _ (by rfl) _ _ 22 9 (by rfl) w.heap.size 5 i0 Tryd.underlying22 Tryd.underlying9 hi hz0 hz1 hz2 _ _ _ (by rfl) (unhide HO3) _ (by rfl) (unhide HZ3).1 (unhide HZ3).2 (unhide HW3).size ?_); intro v4 w4 ho4 hgr4 _; have HW4 := hide (below_own (unhide HW3) (unhide HO3) (Nat.le_refl _) hgr4); have HO4 := own_end6 ho4 (unhide HFL) (unhide HNO) (unhide HR).1; obtain ⟨g4, c4, N4, rfl, hp4⟩ := HO4; have HP := hide hp4; clear ho4 hgr4 hp4)
          | (at_builtin; have _x := unhide HO2; go_must (refine wpList_append_own_string _ (by rfl) _ _ 22 9 (by rfl) w.heap.size 5 i0 Tryd.underlying22 Tryd.underlying9 hi hz0 hz1 hz2 _ _ _ (by rfl) (unhide HO2) _ (by rfl) (by exact (name_room6 (unhide HFL) (unhide HR)).1) (by exact (name_room6 (unhide HFL) (unhide HR)).2) (unhide HW2).size ?_); intro v3 w3 ho3 hgr3 _; have HW3 := hide (below_own (unhide HW2) (unhide HO2) (Nat.le_refl _) hgr3); have HO3 := hide (own_name6 ho3 (unhide HR)); have HZ3 := hide (end_room6 (r := r) (unhide HFL)); clear ho3 hgr3)
          | (at_builtin; go_must (refine wpList_append_own_string _ (by rfl) _ _ 22 9 (by rfl) w.heap.size 5 i0 Tryd.underlying22 Tryd.underlying9 hi hz0 hz1 hz2 _ _ _ (by rfl) (unhide HO1) _ (by rfl) (by exact (ahead_room (unhide HFL)).1) (by exact (ahead_room (unhide HFL)).2) (unhide HW1).size ?_); intro v2 w2 ho2 hgr2 _; have HO2 := hide (own_ahead ho2); have HW2 := hide (below_own (unhide HW1) (unhide HO1) (Nat.le_refl _) hgr2); have hnm2 : w2.cell? ⟨wr.heap.size, 6, none⟩ = some (.string ⟨#[120, 45, 117, 115, 101, 114, 45, 100, 101, 102, 105, 110, 101, 100]⟩) := ((unhide HNM) w2 hgr2) 6 ⟨#[120, 45, 117, 115, 101, 114, 45, 100, 101, 102, 105, 110, 101, 100]⟩ rfl; clear ho2 hgr2))
        go_ret
        exact ⟨rfl, unhide HW5⟩
      · have hiz : ¬ (i : Int) < (l.length : Int) := by omega
        clear hMB hin hig hil hFl
        go_wp2_with (first
          | (go_at_call 13; refine (unhide HP).mono ?_; rintro e w5 ⟨rfl, hb5⟩; have HW5 := hide ((unhide HW4).trans (hb5.mono (unhide HW4).size)); clear hb5)
          | (at_builtin; have _x := unhide HO3; go_must (refine wpList_append_own_string _ (by rfl) _ _ 22 9 (by rfl) w.heap.size 5 i0 Tryd.underlying22 Tryd.underlying9 hi hz0 hz1 hz2 _ _ _ (by rfl) (unhide HO3) _ (by rfl) (unhide HZ3).1 (unhide HZ3).2 (unhide HW3).size ?_); intro v4 w4 ho4 hgr4 _; have HW4 := hide (below_own (unhide HW3) (unhide HO3) (Nat.le_refl _) hgr4); have HO4 := own_end6 ho4 (unhide HFL) (unhide HNO) (unhide HR).1; obtain ⟨g4, c4, N4, rfl, hp4⟩ := HO4; have HP := hide hp4; clear ho4 hgr4 hp4)
          | (at_builtin; have _x := unhide HO2; go_must (refine wpList_append_own_string _ (by rfl) _ _ 22 9 (by rfl) w.heap.size 5 i0 Tryd.underlying22 Tryd.underlying9 hi hz0 hz1 hz2 _ _ _ (by rfl) (unhide HO2) _ (by rfl) (by exact (name_room6 (unhide HFL) (unhide HR)).1) (by exact (name_room6 (unhide HFL) (unhide HR)).2) (unhide HW2).size ?_); intro v3 w3 ho3 hgr3 _; have HW3 := hide (below_own (unhide HW2) (unhide HO2) (Nat.le_refl _) hgr3); have HO3 := hide (own_name6 ho3 (unhide HR)); have HZ3 := hide (end_room6 (r := r) (unhide HFL)); clear ho3 hgr3)
          | (at_builtin; go_must (refine wpList_append_own_string _ (by rfl) _ _ 22 9 (by rfl) w.heap.size 5 i0 Tryd.underlying22 Tryd.underlying9 hi hz0 hz1 hz2 _ _ _ (by rfl) (unhide HO1) _ (by rfl) (by exact (ahead_room (unhide HFL)).1) (by exact (ahead_room (unhide HFL)).2) (unhide HW1).size ?_); intro v2 w2 ho2 hgr2 _; have HO2 := hide (own_ahead ho2); have HW2 := hide (below_own (unhide HW1) (unhide HO1) (Nat.le_refl _) hgr2); have hnm2 : w2.cell? ⟨wr.heap.size, 6, none⟩ = some (.string ⟨#[120, 45, 117, 115, 101, 114, 45, 100, 101, 102, 105, 110, 101, 100]⟩) := ((unhide HNM) w2 hgr2) 6 ⟨#[120, 45, 117, 115, 101, 114, 45, 100, 101, 102, 105, 110, 101, 100]⟩ rfl; clear ho2 hgr2))
        go_ret
        exact ⟨rfl, unhide HW5⟩
end Go.Proofs.YtmikcdmlhocgbaaDoor
