/-
  The same, to the second writer.
-/
import Derived.Test.YtlbkoafeedlfaaaSBbn
namespace Go.Proofs.Ytlbkoafeedlfaaa
open Go.RowKit

set_option maxHeartbeats 2000000 in
theorem tell2_text {bb kb tb B : Nat} {E : List (Nat × List ByteArray)} {w : World} (h : X2 bb kb tb B E w) (sp : Int) (nm dt sy : ByteArray) (g : Option Addr) (n c : Nat) (pa fi la pr ne inn : Int) (d : Nat) (hok : EvOk (d, [⟨#[34]⟩, dt, ⟨#[34]⟩])) (hb : evZ E ≤ 100000000000000) :
    Calls Try.prog 116 #[.agg #[.int .i64 2, .int .i64 sp, .string nm, .slice g n c, .string dt, .string sy, .int .i64 pa, .int .i64 fi, .int .i64 la, .int .i64 pr, .int .i64 ne, .int .i64 inn], .int .i64 d, .func (.func 119) #[] #[.pointer (some ⟨kb, 0, none⟩), .pointer (some ⟨tb, 0, none⟩)]] w fun e w' => e = .returned (.tuple #[]) ∧ X2 bb kb tb B (E ++ [(d, [⟨#[34]⟩, dt, ⟨#[34]⟩])]) w' ∧ Kept (own2 bb kb tb) B w w' := by
  have HH := hide h
  have HB := hide hb
  have HOK := hide hok
  clear h hok hb
  go_enter Try.func116, Try.ntmps116
  go_wp2_with (go_at_call 119; refine (line2 (E := E) ((unhide HH).below (by exact ((Below.refl _ w).alloc (Nat.le_refl _) _).alloc (by simp) _)) [⟨#[34]⟩, dt, ⟨#[34]⟩] _ _ rfl (by exact heap_alloc2_new _ _ _) (fun e => by have := (unhide HH).lt _ e; omega) d _ rfl (unhide HOK) (unhide HB)).mono ?_; rintro e w4 ⟨rfl, hs4, hk4⟩; have HS4 := hide hs4; have HK4 : Hid (Kept (own2 bb kb tb) B w w4) := hide ((Kept.of_below (((Below.refl _ w).alloc (Nat.le_refl _) _).alloc (by simp) _) (unhide HH).size).trans hk4); clear hs4 hk4)
  go_end0
  exact ⟨rfl, unhide HS4, unhide HK4⟩
set_option maxHeartbeats 2000000 in
theorem tell2_com {bb kb tb B : Nat} {E : List (Nat × List ByteArray)} {w : World} (h : X2 bb kb tb B E w) (sp : Int) (nm dt sy : ByteArray) (g : Option Addr) (n c : Nat) (pa fi la pr ne inn : Int) (d : Nat) (hok : EvOk (d, [⟨#[60, 33, 45, 45, 32]⟩, dt, ⟨#[32, 45, 45, 62]⟩])) (hb : evZ E ≤ 100000000000000) :
    Calls Try.prog 116 #[.agg #[.int .i64 3, .int .i64 sp, .string nm, .slice g n c, .string dt, .string sy, .int .i64 pa, .int .i64 fi, .int .i64 la, .int .i64 pr, .int .i64 ne, .int .i64 inn], .int .i64 d, .func (.func 119) #[] #[.pointer (some ⟨kb, 0, none⟩), .pointer (some ⟨tb, 0, none⟩)]] w fun e w' => e = .returned (.tuple #[]) ∧ X2 bb kb tb B (E ++ [(d, [⟨#[60, 33, 45, 45, 32]⟩, dt, ⟨#[32, 45, 45, 62]⟩])]) w' ∧ Kept (own2 bb kb tb) B w w' := by
  have HH := hide h
  have HB := hide hb
  have HOK := hide hok
  clear h hok hb
  go_enter Try.func116, Try.ntmps116
  go_wp2_with (go_at_call 119; refine (line2 (E := E) ((unhide HH).below (by exact ((Below.refl _ w).alloc (Nat.le_refl _) _).alloc (by simp) _)) [⟨#[60, 33, 45, 45, 32]⟩, dt, ⟨#[32, 45, 45, 62]⟩] _ _ rfl (by exact heap_alloc2_new _ _ _) (fun e => by have := (unhide HH).lt _ e; omega) d _ rfl (unhide HOK) (unhide HB)).mono ?_; rintro e w4 ⟨rfl, hs4, hk4⟩; have HS4 := hide hs4; have HK4 : Hid (Kept (own2 bb kb tb) B w w4) := hide ((Kept.of_below (((Below.refl _ w).alloc (Nat.le_refl _) _).alloc (by simp) _) (unhide HH).size).trans hk4); clear hs4 hk4)
  go_end0
  exact ⟨rfl, unhide HS4, unhide HK4⟩
set_option maxHeartbeats 2000000 in
theorem tell2_doc0 {bb kb tb B : Nat} {E : List (Nat × List ByteArray)} {w : World} (h : X2 bb kb tb B E w) (sp : Int) (nm dt sy : ByteArray) (g : Option Addr) (n c : Nat) (pa fi la pr ne inn : Int) (d : Nat) (hdt : dt.toList = []) (hsy : sy.toList = []) (hok : EvOk (d, [⟨#[60, 33, 68, 79, 67, 84, 89, 80, 69, 32]⟩, nm, ⟨#[62]⟩])) (hb : evZ E ≤ 100000000000000) :
    Calls Try.prog 116 #[.agg #[.int .i64 4, .int .i64 sp, .string nm, .slice g n c, .string dt, .string sy, .int .i64 pa, .int .i64 fi, .int .i64 la, .int .i64 pr, .int .i64 ne, .int .i64 inn], .int .i64 d, .func (.func 119) #[] #[.pointer (some ⟨kb, 0, none⟩), .pointer (some ⟨tb, 0, none⟩)]] w fun e w' => e = .returned (.tuple #[]) ∧ X2 bb kb tb B (E ++ [(d, [⟨#[60, 33, 68, 79, 67, 84, 89, 80, 69, 32]⟩, nm, ⟨#[62]⟩])]) w' ∧ Kept (own2 bb kb tb) B w w' := by
  have HH := hide h
  have HB := hide hb
  have HOK := hide hok
  clear h hok hb
  go_enter Try.func116, Try.ntmps116
  go_wp2_with (go_at_call 119; refine (line2 (E := E) ((unhide HH).below (by exact ((Below.refl _ w).alloc (Nat.le_refl _) _).alloc (by simp) _)) [⟨#[60, 33, 68, 79, 67, 84, 89, 80, 69, 32]⟩, nm, ⟨#[62]⟩] _ _ rfl (by exact heap_alloc2_new _ _ _) (fun e => by have := (unhide HH).lt _ e; omega) d _ rfl (unhide HOK) (unhide HB)).mono ?_; rintro e w4 ⟨rfl, hs4, hk4⟩; have HS4 := hide hs4; have HK4 : Hid (Kept (own2 bb kb tb) B w w4) := hide ((Kept.of_below (((Below.refl _ w).alloc (Nat.le_refl _) _).alloc (by simp) _) (unhide HH).size).trans hk4); clear hs4 hk4)
  go_end0
  exact ⟨rfl, unhide HS4, unhide HK4⟩
set_option maxHeartbeats 2000000 in
theorem tell2_doc1 {bb kb tb B : Nat} {E : List (Nat × List ByteArray)} {w : World} (h : X2 bb kb tb B E w) (sp : Int) (nm dt sy : ByteArray) (g : Option Addr) (n c : Nat) (pa fi la pr ne inn : Int) (d : Nat) (hdt2 : dt.toList.isEmpty = false) (hok : EvOk (d, [⟨#[60, 33, 68, 79, 67, 84, 89, 80, 69, 32]⟩, nm, ⟨#[32, 34]⟩, dt, ⟨#[34, 32, 34]⟩, sy, ⟨#[34, 62]⟩])) (hb : evZ E ≤ 100000000000000) :
    Calls Try.prog 116 #[.agg #[.int .i64 4, .int .i64 sp, .string nm, .slice g n c, .string dt, .string sy, .int .i64 pa, .int .i64 fi, .int .i64 la, .int .i64 pr, .int .i64 ne, .int .i64 inn], .int .i64 d, .func (.func 119) #[] #[.pointer (some ⟨kb, 0, none⟩), .pointer (some ⟨tb, 0, none⟩)]] w fun e w' => e = .returned (.tuple #[]) ∧ X2 bb kb tb B (E ++ [(d, [⟨#[60, 33, 68, 79, 67, 84, 89, 80, 69, 32]⟩, nm, ⟨#[32, 34]⟩, dt, ⟨#[34, 32, 34]⟩, sy, ⟨#[34, 62]⟩])]) w' ∧ Kept (own2 bb kb tb) B w w' := by
  have HH := hide h
  have HB := hide hb
  have HOK := hide hok
  clear h hok hb
  go_enter Try.func116, Try.ntmps116
  go_wp2_with (go_at_call 119; refine (line2 (E := E) ((unhide HH).below (by exact ((Below.refl _ w).alloc (Nat.le_refl _) _).alloc (by simp) _)) [⟨#[60, 33, 68, 79, 67, 84, 89, 80, 69, 32]⟩, nm, ⟨#[32, 34]⟩, dt, ⟨#[34, 32, 34]⟩, sy, ⟨#[34, 62]⟩] _ _ rfl (by exact heap_alloc2_new _ _ _) (fun e => by have := (unhide HH).lt _ e; omega) d _ rfl (unhide HOK) (unhide HB)).mono ?_; rintro e w4 ⟨rfl, hs4, hk4⟩; have HS4 := hide hs4; have HK4 : Hid (Kept (own2 bb kb tb) B w w4) := hide ((Kept.of_below (((Below.refl _ w).alloc (Nat.le_refl _) _).alloc (by simp) _) (unhide HH).size).trans hk4); clear hs4 hk4)
  go_end0
  exact ⟨rfl, unhide HS4, unhide HK4⟩
set_option maxHeartbeats 2000000 in
theorem tell2_doc2 {bb kb tb B : Nat} {E : List (Nat × List ByteArray)} {w : World} (h : X2 bb kb tb B E w) (sp : Int) (nm dt sy : ByteArray) (g : Option Addr) (n c : Nat) (pa fi la pr ne inn : Int) (d : Nat) (hdt : dt.toList = []) (hsy2 : sy.toList.isEmpty = false) (hok : EvOk (d, [⟨#[60, 33, 68, 79, 67, 84, 89, 80, 69, 32]⟩, nm, ⟨#[32, 34]⟩, dt, ⟨#[34, 32, 34]⟩, sy, ⟨#[34, 62]⟩])) (hb : evZ E ≤ 100000000000000) :
    Calls Try.prog 116 #[.agg #[.int .i64 4, .int .i64 sp, .string nm, .slice g n c, .string dt, .string sy, .int .i64 pa, .int .i64 fi, .int .i64 la, .int .i64 pr, .int .i64 ne, .int .i64 inn], .int .i64 d, .func (.func 119) #[] #[.pointer (some ⟨kb, 0, none⟩), .pointer (some ⟨tb, 0, none⟩)]] w fun e w' => e = .returned (.tuple #[]) ∧ X2 bb kb tb B (E ++ [(d, [⟨#[60, 33, 68, 79, 67, 84, 89, 80, 69, 32]⟩, nm, ⟨#[32, 34]⟩, dt, ⟨#[34, 32, 34]⟩, sy, ⟨#[34, 62]⟩])]) w' ∧ Kept (own2 bb kb tb) B w w' := by
  have HH := hide h
  have HB := hide hb
  have HOK := hide hok
  clear h hok hb
  go_enter Try.func116, Try.ntmps116
  go_wp2_with (go_at_call 119; refine (line2 (E := E) ((unhide HH).below (by exact ((Below.refl _ w).alloc (Nat.le_refl _) _).alloc (by simp) _)) [⟨#[60, 33, 68, 79, 67, 84, 89, 80, 69, 32]⟩, nm, ⟨#[32, 34]⟩, dt, ⟨#[34, 32, 34]⟩, sy, ⟨#[34, 62]⟩] _ _ rfl (by exact heap_alloc2_new _ _ _) (fun e => by have := (unhide HH).lt _ e; omega) d _ rfl (unhide HOK) (unhide HB)).mono ?_; rintro e w4 ⟨rfl, hs4, hk4⟩; have HS4 := hide hs4; have HK4 : Hid (Kept (own2 bb kb tb) B w w4) := hide ((Kept.of_below (((Below.refl _ w).alloc (Nat.le_refl _) _).alloc (by simp) _) (unhide HH).size).trans hk4); clear hs4 hk4)
  go_end0
  exact ⟨rfl, unhide HS4, unhide HK4⟩
set_option maxHeartbeats 2000000 in
theorem tell2_none {bb kb tb B : Nat} {E : List (Nat × List ByteArray)} {w : World} (h : X2 bb kb tb B E w) (kind : Int) (sp : Int) (nm dt sy : ByteArray) (g : Option Addr) (n c : Nat) (pa fi la pr ne inn : Int) (d : Nat) (k1 : (kind == 1) = false) (k2 : (kind == 2) = false) (k3 : (kind == 3) = false) (k4 : (kind == 4) = false) :
    Calls Try.prog 116 #[.agg #[.int .i64 kind, .int .i64 sp, .string nm, .slice g n c, .string dt, .string sy, .int .i64 pa, .int .i64 fi, .int .i64 la, .int .i64 pr, .int .i64 ne, .int .i64 inn], .int .i64 d, .func (.func 119) #[] #[.pointer (some ⟨kb, 0, none⟩), .pointer (some ⟨tb, 0, none⟩)]] w fun e w' => e = .returned (.tuple #[]) ∧ X2 bb kb tb B E w' ∧ Kept (own2 bb kb tb) B w w' := by
  have HH := hide h
  clear h
  go_enter Try.func116, Try.ntmps116
  go_wp2_with fail
  go_end0
  exact ⟨rfl, (unhide HH).below ((Below.refl _ w).alloc (Nat.le_refl _) _), Kept.of_below ((Below.refl _ w).alloc (Nat.le_refl _) _) (unhide HH).size⟩
set_option maxHeartbeats 4000000 in
theorem tell2_elem {bb kb tb B : Nat} {E : List (Nat × List ByteArray)} {w : World} (h : X2 bb kb tb B E w) (sp : Int) (nm dt sy : ByteArray) (g : Option Addr) (c : Nat) (attrs : List AttrM) (pa fi la pr ne inn : Int) (d lo : Nat) (hA : RowA w lo g c attrs) (hlo : ∀ k, (own2 bb kb tb) k → k < lo) (hal : attrs.length ≤ 1024) (haz : ∀ x ∈ attrs, x.name.size ≤ 2000000) (hd : d ≤ 1900)
    (hok : EvOk (d, [⟨#[60]⟩, wordE sp, nm, ⟨#[62]⟩])) (hoks : ∀ a ∈ sortS (attrs.map shA), EvOk (attrL d a)) (hb : evZ (E ++ ((d, [⟨#[60]⟩, wordE sp, nm, ⟨#[62]⟩]) :: (sortS (attrs.map shA)).map (attrL d))) ≤ 100000000000000) :
    Calls Try.prog 116 #[.agg #[.int .i64 1, .int .i64 sp, .string nm, .slice g attrs.length c, .string dt, .string sy, .int .i64 pa, .int .i64 fi, .int .i64 la, .int .i64 pr, .int .i64 ne, .int .i64 inn], .int .i64 d, .func (.func 119) #[] #[.pointer (some ⟨kb, 0, none⟩), .pointer (some ⟨tb, 0, none⟩)]] w fun e w' => e = .returned (.tuple #[]) ∧ X2 bb kb tb B (E ++ ((d, [⟨#[60]⟩, wordE sp, nm, ⟨#[62]⟩]) :: (sortS (attrs.map shA)).map (attrL d))) w' ∧ Kept (own2 bb kb tb) B w w' := by
  have HH := hide h
  have HB0 : Hid (evZ E ≤ 100000000000000) := hide (evOk_mono hb)
  have HOK := hide hok
  have HOKS := hide hoks
  have HLO := hide hlo
  have HAT := hide hA
  have HW := hide (elementWord_any sp)
  obtain ⟨n, hn⟩ : ∃ n, attrs.length = n := ⟨_, rfl⟩
  obtain ⟨ss, hss⟩ : ∃ ss, sortS (attrs.map shA) = ss := ⟨_, rfl⟩
  have HSL : Hid (ss.length = n) := hide (by rw [← hss, sortS_len, List.length_map, hn])
  have hnz : (n : Int) ≤ 1024 := by omega
  have HSH : Hid (∀ W, AttrsIn W g attrs → Calls Try.prog 136 #[.slice g n c] W fun e w' => ∃ g' cap, e = .returned (.slice (some ⟨g', 0, none⟩) n cap) ∧ ShAt w' W.heap.size g' cap ss ∧ Below W.heap.size W w') := hide (fun W hW => by
    have := shown_any g c attrs hW hal haz
    rw [hn, hss] at this
    exact this)
  rw [hn, hss]
  rw [hss] at HOKS hb
  have HBB := hide hb
  generalize wordE sp = ws at *
  have hdz : (d : Int) ≤ 1900 := by omega
  clear h hok hoks hlo hA hal haz hb hss hn
  go_enter Try.func116, Try.ntmps116
  go_wp2_with fail
  have hbox := heap_alloc_new w (Obj.cells #[.int .i64 1, .int .i64 sp, .string nm, .slice g n c, .string dt, .string sy, .int .i64 pa, .int .i64 fi, .int .i64 la, .int .i64 pr, .int .i64 ne, .int .i64 inn] 37 (0, 0))
  have HBW : Hid (Below w.heap.size w (w.alloc (Obj.cells #[.int .i64 1, .int .i64 sp, .string nm, .slice g n c, .string dt, .string sy, .int .i64 pa, .int .i64 fi, .int .i64 la, .int .i64 pr, .int .i64 ne, .int .i64 inn] 37 (0, 0)))) := hide ((Below.refl _ w).alloc (Nat.le_refl _) _)
  have HSX := hide ((unhide HH).below (unhide HBW))
  have HKX : Hid (Kept (own2 bb kb tb) B w (w.alloc (Obj.cells #[.int .i64 1, .int .i64 sp, .string nm, .slice g n c, .string dt, .string sy, .int .i64 pa, .int .i64 fi, .int .i64 la, .int .i64 pr, .int .i64 ne, .int .i64 inn] 37 (0, 0)))) := hide (Kept.of_below (unhide HBW) (unhide HH).size)
  have HNS : Hid (¬ (own2 bb kb tb) w.heap.size) := hide (fun e => Nat.lt_irrefl _ ((unhide HH).lt _ e))
  generalize w.alloc (Obj.cells #[.int .i64 1, .int .i64 sp, .string nm, .slice g n c, .string dt, .string sy, .int .i64 pa, .int .i64 fi, .int .i64 la, .int .i64 pr, .int .i64 ne, .int .i64 inn] 37 (0, 0)) = wx at hbox HBW HSX HKX ⊢
  have D1 : Hid (wx.cell? ⟨w.heap.size, 1, none⟩ = some (.int .i64 sp)) := hide (by simp [World.cell?, hbox])
  have D2 : Hid (wx.cell? ⟨w.heap.size, 2, none⟩ = some (.string nm)) := hide (by simp [World.cell?, hbox])
  have HBX := hide hbox
  have DB : Hid (∀ W : World, Below wx.heap.size wx W → W.cell? ⟨w.heap.size, 1, none⟩ = some (.int .i64 sp) ∧ W.cell? ⟨w.heap.size, 2, none⟩ = some (.string nm)) := hide (fun W hW => by
    have h2 := (hW.block w.heap.size (lt_of_block hbox)).trans hbox
    constructor <;> simp [World.cell?, h2])
  clear hbox
  go_region_held3 (fun w' => w'.cell? ⟨w.heap.size, 1, none⟩ = some (.int .i64 sp) ∧ w'.cell? ⟨w.heap.size, 2, none⟩ = some (.string nm)) (first | exact ⟨unhide D1, unhide D2⟩ | exact unhide E12 | exact unhide DB _ (((Below.refl _ wx).drew).alloc (Nat.le_refl _) _)) (first
    | (go_at_call 135; refine (unhide HW _).mono ?_; rintro e w1 ⟨rfl, rfl⟩)
    | (go_at_call 119; refine (line2 (E := E) ((unhide HSX).below (by exact ((Below.refl _ wx).drew).alloc (Nat.le_refl _) _)) [⟨#[60]⟩, ws, nm, ⟨#[62]⟩] _ _ rfl (by exact heap_alloc_new _ _) (fun e => Nat.lt_irrefl _ ((unhide HSX).lt _ e)) d _ rfl (unhide HOK) (unhide HB0)).mono ?_; rintro e w4 ⟨rfl, hs4, hk4⟩; have HS4 := hide hs4; have HK4 : Hid (Kept (own2 bb kb tb) B wx w4) := hide ((Kept.of_below (((Below.refl _ wx).drew).alloc (Nat.le_refl _) _) (unhide HSX).size).trans hk4); have hbox4 := (unhide HK4).cell (unhide HBX) (unhide HNS) (by decide); have E12 : Hid (w4.cell? ⟨w.heap.size, 1, none⟩ = some (.int .i64 sp) ∧ w4.cell? ⟨w.heap.size, 2, none⟩ = some (.string nm)) := hide (by constructor <;> simp [World.cell?, hbox4]); have E3 : w4.cell? ⟨w.heap.size, 3, none⟩ = some (.slice g n c) := (by simp [World.cell?, hbox4]); clear hs4 hk4 hbox4))
  have HKW : Hid (Kept (own2 bb kb tb) B w w4) := hide ((unhide HKX).trans (unhide HK4))
  have HA4 : Hid (AttrsIn w4 g attrs) := hide ((unhide HAT).kept (unhide HKW) (unhide HLO)).attrs
  go_wp2_with (go_at_call 136; refine (unhide HSH _ (unhide HA4)).mono ?_; rintro e w5 ⟨g5, c5, rfl, hs5, hb5⟩; have HSH5 := hide hs5; have HB5 := hide hb5; clear hs5 hb5)
  have HX5 := hide ((unhide HS4).below (unhide HB5))
  have HK5 : Hid (Kept (own2 bb kb tb) B w w5) := hide ((unhide HKW).trans (Kept.of_below (unhide HB5) (unhide HS4).size))
  have HL5 := hide ((unhide HS4).lt)
  go_loopg [25] n (fun gk s25 wy => ∃ k : Nat, s25 = .int .i64 k ∧ k + gk = n ∧ Hid (X2 bb kb tb B (E ++ ((d, [⟨#[60]⟩, ws, nm, ⟨#[62]⟩]) :: (ss.take k).map (attrL d))) wy ∧ ShAt wy w4.heap.size g5 c5 ss ∧ Kept (own2 bb kb tb) B w wy))
  case atStart => exact ⟨0, rfl, by omega, hide ⟨by simpa using unhide HX5, unhide HSH5, unhide HK5⟩⟩
  case round =>
    clear HX5 HK5 HS4
    obtain ⟨k, rfl, hk, HY⟩ := hrel
    by_cases hkn : k < n
    · have hkz : (k : Int) < (n : Int) := by omega
      obtain ⟨x, hx⟩ : ∃ x, ss[k]? = some x := ⟨_, List.getElem?_eq_getElem (by have := unhide HSL; omega)⟩
      obtain ⟨x0, x1⟩ := ((unhide HY).2.1).two hx
      have HOKX : Hid (EvOk (d + 1, [x.name, ⟨#[61, 34]⟩, x.val, ⟨#[34]⟩])) := hide (unhide HOKS x (List.mem_of_getElem? hx))
      have HTK : Hid (ss.take (k + 1) = ss.take k ++ [x]) := hide (by rw [List.take_add_one, hx]; rfl)
      have HBK : Hid (evZ (E ++ ((d, [⟨#[60]⟩, ws, nm, ⟨#[62]⟩]) :: (ss.take k).map (attrL d))) ≤ 100000000000000) := hide (by
        have h1 := unhide HBB
        have h2 : ss = ss.take k ++ ss.drop k := (List.take_append_drop k ss).symm
        rw [h2, List.map_append, ← List.cons_append, ← List.append_assoc, evZ_append] at h1
        omega)
      obtain ⟨xn, xv⟩ := x
      simp only at x0 x1 HOKX
      have HGL := hide (ShAt.lt (unhide HY).2.1)
      clear hx
      go_wp2_with fail
      go_wp2_with (go_at_call 119; refine (line2 (E := E ++ ((d, [⟨#[60]⟩, ws, nm, ⟨#[62]⟩]) :: (ss.take k).map (attrL d))) ((unhide HY).1.below (by exact ((Below.refl _ wr).alloc (Nat.le_refl _) _).alloc (by simp) _)) [xn, ⟨#[61, 34]⟩, xv, ⟨#[34]⟩] _ _ rfl (by exact heap_alloc2_new _ _ _) (fun e => by have := (unhide HY).1.lt _ e; omega) (d + 1) _ (by simp) (unhide HOKX) (unhide HBK)).mono ?_; rintro e w6 ⟨rfl, hs6, hk6⟩; have HS6 := hide hs6; have HK6 : Hid (Kept (own2 bb kb tb) B wr w6) := hide ((Kept.of_below (((Below.refl _ wr).alloc (Nat.le_refl _) _).alloc (by simp) _) (unhide HY).1.size).trans hk6); clear hs6 hk6)
      go_roundg (gk - 1)
      case measure => omega
      case rel =>
        refine ⟨k + 1, by go_num, by omega, hide ⟨?_, ?_, (unhide HY).2.2.trans (unhide HK6)⟩⟩
        · rw [unhide HTK, List.map_append, ← List.cons_append, ← List.append_assoc]
          exact unhide HS6
        · exact ownsRow_kept (unhide HY).2.1 (fun q hq => by
            have e1 : g5 = q := by simpa [Value.ownBlock] using hq
            subst e1
            obtain ⟨cur, hc⟩ := ownsRow_block (unhide HY).2.1 rfl
            rw [hc]
            exact (unhide HK6).cell hc (fun e => by have := (unhide HL5) _ e; have := (unhide HGL).1; omega) (by decide))
    · have hkz : ¬ (k : Int) < (n : Int) := by omega
      have HTK : Hid (ss.take k = ss) := hide (List.take_of_length_le (by have := unhide HSL; omega))
      go_wp2_with fail
      go_end0
      have hy := unhide HY
      rw [unhide HTK] at hy
      exact ⟨rfl, hy.1, hy.2.2⟩

/-- A node of any kind. -/
theorem tell2_any {bb kb tb B : Nat} {E : List (Nat × List ByteArray)} {w : World} (h : X2 bb kb tb B E w) (kind sp : Int) (nm dt sy : ByteArray) (g : Option Addr) (c : Nat) (attrs : List AttrM) (pa fi la pr ne inn : Int) (d lo : Nat) (hA : RowA w lo g c attrs) (hlo : ∀ k, (own2 bb kb tb) k → k < lo) (hal : attrs.length ≤ 1024) (haz : ∀ x ∈ attrs, x.name.size ≤ 2000000) (hd : d ≤ 1900)
    (hok : ∀ e ∈ tellL kind sp nm dt sy attrs d, EvOk e) (hb : evZ (E ++ tellL kind sp nm dt sy attrs d) ≤ 100000000000000) :
    Calls Try.prog 116 #[.agg #[.int .i64 kind, .int .i64 sp, .string nm, .slice g attrs.length c, .string dt, .string sy, .int .i64 pa, .int .i64 fi, .int .i64 la, .int .i64 pr, .int .i64 ne, .int .i64 inn], .int .i64 d, .func (.func 119) #[] #[.pointer (some ⟨kb, 0, none⟩), .pointer (some ⟨tb, 0, none⟩)]] w fun e w' => e = .returned (.tuple #[]) ∧ X2 bb kb tb B (E ++ tellL kind sp nm dt sy attrs d) w' ∧ Kept (own2 bb kb tb) B w w' := by
  unfold tellL at *
  by_cases k1 : kind = 1
  · subst k1
    rw [if_pos rfl] at hok hb ⊢
    exact tell2_elem h sp nm dt sy g c attrs pa fi la pr ne inn d lo hA hlo hal haz hd (hok _ (by simp)) (fun a ha => hok _ (by simp only [List.mem_cons, List.mem_map]; exact .inr ⟨a, ha, rfl⟩)) hb
  rw [if_neg k1] at hok hb ⊢
  by_cases k2 : kind = 2
  · subst k2
    rw [if_pos rfl] at hok hb ⊢
    exact tell2_text h sp nm dt sy g _ c pa fi la pr ne inn d (hok _ (by simp)) (evOk_mono hb)
  rw [if_neg k2] at hok hb ⊢
  by_cases k3 : kind = 3
  · subst k3
    rw [if_pos rfl] at hok hb ⊢
    exact tell2_com h sp nm dt sy g _ c pa fi la pr ne inn d (hok _ (by simp)) (evOk_mono hb)
  rw [if_neg k3] at hok hb ⊢
  by_cases k4 : kind = 4
  · subst k4
    rw [if_pos rfl] at hok hb ⊢
    by_cases h1 : dt.toList = []
    · by_cases h2 : sy.toList = []
      · rw [if_pos ⟨h1, h2⟩] at hok hb ⊢
        exact tell2_doc0 h sp nm dt sy g _ c pa fi la pr ne inn d h1 h2 (hok _ (by simp)) (evOk_mono hb)
      · rw [if_neg (fun e => h2 e.2)] at hok hb ⊢
        exact tell2_doc2 h sp nm dt sy g _ c pa fi la pr ne inn d h1 (by simpa using h2) (hok _ (by simp)) (evOk_mono hb)
    · rw [if_neg (fun e => h1 e.1)] at hok hb ⊢
      exact tell2_doc1 h sp nm dt sy g _ c pa fi la pr ne inn d (by simpa using h1) (hok _ (by simp)) (evOk_mono hb)
  rw [if_neg k4] at hok hb ⊢
  rw [List.append_nil]
  exact tell2_none h kind sp nm dt sy g _ c pa fi la pr ne inn d (by simpa using k1) (by simpa using k2) (by simpa using k3) (by simpa using k4)
end Go.Proofs.Ytlbkoafeedlfaaa
