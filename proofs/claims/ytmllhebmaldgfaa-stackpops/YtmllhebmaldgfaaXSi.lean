/-
  Elements that leave a stack, plain. Elements that leave a stack: PopTo; leave over any question, Implied, Thorough.
-/
import Derived.Test.YtmllhebmaldgfaaXSh
namespace Go.Proofs.Ytmllhebmaldgfaa
open Go.RowKit

/-- The last place under n at which p holds. -/
def lastI (p : Int → Bool) (L : List Int) : Nat → Option Nat
  | 0 => none
  | n + 1 => match L[n]? with
    | some x => if p x then some n else lastI p L n
    | none => none
theorem lastI_lt {p : Int → Bool} {L : List Int} : ∀ {n i : Nat}, lastI p L n = some i → i < n ∧ ∃ x, L[i]? = some x ∧ p x = true
  | 0, i, h => by simp [lastI] at h
  | n + 1, i, h => by
    rw [lastI] at h
    cases hx : L[n]? with
    | none => rw [hx] at h; cases h
    | some x =>
      rw [hx] at h
      simp only at h
      split at h
      · cases h
        exact ⟨by omega, x, hx, by assumption⟩
      · obtain ⟨h1, h2⟩ := lastI_lt h
        exact ⟨by omega, h2⟩

def popToI (ks : List Key) (L : List Int) (name : ByteArray) : Option Nat := lastI (fun id => namedM (calOf ks id) name) L L.length
def popToL (ks : List Key) (L : List Int) (name : ByteArray) : List Int := match popToI ks L name with
  | some i => L.take i
  | none => L

/-- How many stay, of the first n. -/
def leaveN (p : Int → Bool) (L : List Int) : Nat → Nat
  | 0 => 0
  | n + 1 => match L[n]? with
    | some x => if p x then leaveN p L n else n + 1
    | none => n + 1
theorem leaveN_le (p : Int → Bool) (L : List Int) : ∀ n, leaveN p L n ≤ n
  | 0 => Nat.le_refl _
  | n + 1 => by
    rw [leaveN]
    have := leaveN_le p L n
    split
    · split <;> omega
    · omega

def impM (c : Cal) (but : ByteArray) : Bool := amongM c 0 impT && !namedM c but
def thorM (c : Cal) : Bool := amongM c 0 impT || amongM c 0 partT

/-- How many stay behind Implied, behind Thorough. -/
def impN (ks : List Key) (L : List Int) (but : ByteArray) : Nat := leaveN (fun id => impM (calOf ks id) but) L L.length
def thorN (ks : List Key) (L : List Int) : Nat := leaveN (fun id => thorM (calOf ks id)) L L.length

end Go.Proofs.Ytmllhebmaldgfaa

namespace Go.Proofs.Ytmllhebmaldgfaa
open Go.RowKit

section
variable {w w1 : World} {base bK bA : Nat} {ks : List Key} {L : List Int} {F FA : Nat → Prop}

set_option maxHeartbeats 4000000 in
theorem popTo_any (ha : ArK w base bA ks FA) (hs : StkS w base bK bA (elOf ks) L F) (hd : ∀ k, FA k → ¬ F k) (hg : Good ks L) (name : ByteArray) :
    Calls Try.prog 21 #[.pointer (some ⟨bK, 0, none⟩), .string name] w fun e w' => e = .returned (.bool (popToI ks L name).isSome) ∧ UpdS F w w' base bK bA (elOf ks) (popToL ks L name) := by
  have hl := (Live.mk' ha hs).few hg
  have HAR := hide ha
  have HD := hide hd
  have HS0 := hide hs.self
  have HLN := hide (slen_any hs)
  have hlz : (L.length : Int) ≤ 32768 := by omega
  have HLL := hide hl
  have HFIN : Hid (∀ i, popToI ks L name = some i → popToL ks L name = L.take i) := hide (fun i hi => by unfold popToL; rw [hi])
  have HFIN0 : Hid (popToI ks L name = none → popToL ks L name = L) := hide (fun hi => by unfold popToL; rw [hi])
  clear ha hs hd hg hl
  go_enter Try.func21, Try.ntmps21
  go_wp2_with (go_at_call 22; refine (unhide HLN).mono ?_; rintro e w1 ⟨rfl, rfl⟩)
  go_loopg [5, 6, 7] L.length (fun g s5 _ _ wr => s5 = .int .i64 ((g : Int) - 1) ∧ g ≤ L.length ∧ UpdS F w wr base bK bA (elOf ks) L ∧ popToI ks L name = lastI (fun id => namedM (calOf ks id) name) L g)
  case atStart => exact ⟨rfl, Nat.le_refl _, unhide HS0, rfl⟩
  case round =>
    obtain ⟨rfl, hgl, hb, hrec⟩ := hrel
    have HB := hide hb
    have HR := hide hrec
    clear hrec
    cases gk with
    | zero =>
      clear hb
      go_wp2
      go_ret
      have e0 : popToI ks L name = none := unhide HR
      exact ⟨by rw [e0]; rfl, by rw [(unhide HFIN0) e0]; exact unhide HB⟩
    | succ n =>
      obtain ⟨x, hx⟩ : ∃ x, L[n]? = some x := ⟨_, List.getElem?_eq_getElem (by omega)⟩
      have e1 : (((n + 1 : Nat) : Int) - 1) = (n : Int) := by omega
      rw [e1]
      have HA : Hid (Calls Try.prog 57 #[.pointer (some ⟨bK, 0, none⟩), .int .i64 (n : Int)] wr fun e w' => e = .returned (.int .i64 x) ∧ wr = w') := hide (by
        have := hb.at (n : Int)
        rw [atM_in hx] at this
        exact this)
      have HLK := hide (hb.look ((unhide HAR).mod hb.mod' (unhide HD)) x)
      have HN : Hid (∀ w1, Calls Try.prog 67 #[.agg #[.int .i64 (calOf ks x).space, .string (calOf ks x).name], .string name] w1 fun e w' => e = .returned (.bool (namedM (calOf ks x) name)) ∧ Below w1.heap.size w1 w') := hide (fun w1 => isNamed_any (calOf ks x) name w1)
      have HRC : Hid (lastI (fun id => namedM (calOf ks id) name) L (n + 1) = if namedM (calOf ks x) name then some n else lastI (fun id => namedM (calOf ks id) name) L n) := hide (by rw [lastI, hx])
      unfold knownV at HLK
      generalize borK ks x 0 = b0 at *
      generalize borK ks x 1 = b1 at *
      generalize borK ks x 2 = b2 at *
      generalize borK ks x 3 = b3 at *
      generalize borK ks x 4 = b4 at *
      generalize (elOf ks x).isSome = ok at *
      generalize hcal : calOf ks x = c at *
      obtain ⟨cs', cn'⟩ := c
      simp only at HLK HN HRC
      have hn0 : (0 : Int) ≤ (n : Int) := by omega
      have hnz : (n : Int) ≤ 32768 := by omega
      have HNL : Hid (n ≤ L.length) := hide (by omega)
      clear hb hx e1 hcal
      cases hwx : namedM ⟨cs', cn'⟩ name with
      | true =>
        rw [hwx] at HRC HN
        go_wp2_with (first | (go_at_call 57; refine (unhide HA).mono ?_; rintro e w1 ⟨rfl, rfl⟩) | (go_at_call 68; refine (unhide HLK).mono ?_; rintro e w2 ⟨rfl, hu⟩; have HB3 := hide (hu.then (below_new w2 (.cells #[.int .i64 cs', .string cn', .bool b0, .bool b1, .bool b2, .bool b3, .bool b4, .bool ok] 103))); clear hu) | (go_at_call 67; refine ((unhide HN) _).mono ?_; rintro e w3 ⟨rfl, hb⟩; obtain ⟨bP, p, hc1, hp, hpl, hup⟩ := ((unhide HB3).then hb).open; have HP := hide hp; have HPL := hide hpl; have HUP := hide hup; clear hb hp hpl hup) | (go_at_call 69; refine (cut_any (unhide HPL) (by have := unhide HLL; rw [unhide HP]; omega) n (by rw [unhide HP]; exact unhide HNL)).mono ?_; rintro e w4 ⟨rfl, hu⟩; have HU := hide ((unhide HUP) _ _ hu); clear hu))
        go_ret
        have e0 : popToI ks L name = some n := (unhide HR).trans (unhide HRC)
        have hu := unhide HU
        rw [unhide HP] at hu
        exact ⟨by rw [e0]; rfl, by rw [(unhide HFIN) n e0]; exact hu⟩
      | false =>
        rw [hwx] at HRC HN
        go_wp2_with (first | (go_at_call 57; refine (unhide HA).mono ?_; rintro e w1 ⟨rfl, rfl⟩) | (go_at_call 68; refine (unhide HLK).mono ?_; rintro e w2 ⟨rfl, hu⟩; have HB3 := hide (hu.then (below_new w2 (.cells #[.int .i64 cs', .string cn', .bool b0, .bool b1, .bool b2, .bool b3, .bool b4, .bool ok] 103))); clear hu) | (go_at_call 67; refine ((unhide HN) _).mono ?_; rintro e w3 ⟨rfl, hb⟩; have HB4 := hide ((unhide HB3).then hb); clear hb))
        go_roundg n
        case measure => omega
        case rel => exact ⟨by go_num, by omega, unhide HB4, (unhide HR).trans (unhide HRC)⟩

set_option maxHeartbeats 4000000 in
theorem leave_any (K : Nat) (cs : Array Value) (eg : ∀ args w, (callFunc K args).run Try.prog w = .ok (.enter K args) w) (goes : Int → Bool) (ha : ArK w base bA ks FA) (hs : StkS w base bK bA (elOf ks) L F) (hd : ∀ k, FA k → ¬ F k) (hg : Good ks L)
    (hw : ∀ id, id ∈ L → ∀ w1, Mod F w w1 → Calls Try.prog K (#[.agg #[.int .i64 (calOf ks id).space, .string (calOf ks id).name]] ++ cs) w1 fun e w' => e = .returned (.bool (goes id)) ∧ Below w1.heap.size w1 w') :
    Calls Try.prog 71 #[.pointer (some ⟨bK, 0, none⟩), .func (.func K) #[] cs] w fun e w' =>
      e = .returned (.int .i64 ((L.length : Int) - (leaveN goes L L.length : Int))) ∧ UpdS F w w' base bK bA (elOf ks) (L.take (leaveN goes L L.length)) := by
  have hl := (Live.mk' ha hs).few hg
  have HW := hide hw
  have HA := hide ha
  have HS := hide hs
  have HD := hide hd
  have HG := hide hg
  have hlz : (L.length : Int) ≤ 32768 := by omega
  have HLL := hide hl
  clear ha hs hd hg hw hl
  go_enter Try.func71, Try.ntmps71
  go_wp2
  go_loopg [5, 6, 7] L.length (fun g s5 _ _ wr => s5 = .int .i64 ((L.length : Int) - (g : Int)) ∧ g ≤ L.length ∧ UpdS F w wr base bK bA (elOf ks) (L.take g) ∧ leaveN goes L L.length = leaveN goes L g)
  case atStart => exact ⟨by simp, Nat.le_refl _, by rw [List.take_length]; exact (unhide HS).upd (Below.refl _ _), rfl⟩
  case round =>
    obtain ⟨rfl, hgl, hu, hrec⟩ := hrel
    have HU := hide hu
    have HR := hide hrec
    obtain ⟨F', hst, hmod, hfoot⟩ := hu
    have har := (unhide HA).mod hmod (unhide HD)
    have hlen : (L.take gk).length = gk := by simp; omega
    have HLN : Hid (Calls Try.prog 22 #[.pointer (some ⟨bK, 0, none⟩)] wr fun e w' => e = .returned (.int .i64 (gk : Int)) ∧ wr = w') := hide (by
      have := slen_any hst
      rw [hlen] at this
      exact this)
    clear hrec
    cases gk with
    | zero =>
      clear hst hmod hfoot har hlen
      go_wp2_with (go_at_call 22; refine (unhide HLN).mono ?_; rintro e w1 ⟨rfl, rfl⟩)
      go_ret
      have e0 : leaveN goes L L.length = 0 := unhide HR
      rw [e0]
      exact ⟨by simp, unhide HU⟩
    | succ n =>
      obtain ⟨x, hx⟩ : ∃ x, L[n]? = some x := ⟨_, List.getElem?_eq_getElem (by omega)⟩
      have hxm : x ∈ L := List.mem_of_getElem? hx
      have hx2 : (L.take (n + 1))[n]? = some x := by rw [List.getElem?_take, if_pos (by omega)]; exact hx
      have hg2 : Good ks (L.take (n + 1)) := (unhide HG).sub (List.take_sublist _ _)
      have htop : topM (L.take (n + 1)) = x := by
        unfold topM
        rw [hlen]
        have := atM_in hx2
        rw [show (((n + 1 : Nat) : Int) - 1) = (n : Int) by omega]
        exact this
      have HT : Hid (Calls Try.prog 24 #[.pointer (some ⟨bK, 0, none⟩)] wr fun e w' => e = .returned (.int .i64 x) ∧ wr = w') := hide (by
        have := stop_any hst (by rw [hlen]; omega)
        rw [htop] at this
        exact this)
      have HLK := hide ((unhide HU).look har x)
      have HWX := hide ((unhide HW) x hxm)
      have HPOP : Hid (∀ w1, UpdS F w w1 base bK bA (elOf ks) (L.take (n + 1)) → Calls Try.prog 28 #[.pointer (some ⟨bK, 0, none⟩)] w1 fun e w' => e = .returned (.int .i64 x) ∧ UpdS F w w' base bK bA (elOf ks) (L.take n)) := hide (fun w1 hu1 => by
        obtain ⟨F1, hst1, hmod1, hfoot1⟩ := hu1
        refine (spop_any hst1 hg2 (by rw [hlen]; omega)).mono ?_
        rintro e w' ⟨rfl, hu2⟩
        have e2 : popL (L.take (n + 1)) = L.take n := by
          unfold popL
          rw [hlen, List.take_take]
          congr 1
          omega
        rw [e2] at hu2
        refine ⟨by rw [htop], ?_⟩
        obtain ⟨F2, g1, g2, g3⟩ := hu2
        refine ⟨F2, g1, hmod1.then g2 hfoot1, fun k hk => ?_⟩
        rcases g3 k hk with e | e
        · exact hfoot1 k e
        · exact .inr (Nat.le_trans hmod1.size e))
      have HRC : Hid (leaveN goes L (n + 1) = if goes x then leaveN goes L n else n + 1) := hide (by rw [leaveN, hx])
      unfold knownV at HLK
      generalize borK ks x 0 = b0 at *
      generalize borK ks x 1 = b1 at *
      generalize borK ks x 2 = b2 at *
      generalize borK ks x 3 = b3 at *
      generalize borK ks x 4 = b4 at *
      generalize (elOf ks x).isSome = ok at *
      generalize hcal : calOf ks x = c at *
      obtain ⟨cs', cn'⟩ := c
      simp only at HLK HWX
      have hn0 : (0 : Int) < ((n + 1 : Nat) : Int) := by omega
      have hnz : (n : Int) + 1 ≤ 32768 := by omega
      have hnl : ((n + 1 : Nat) : Int) ≤ (L.length : Int) := by omega
      clear hst hmod hfoot har hlen hx hxm hx2 hg2 htop hcal
      go_wp2_with (first | (go_at_call 22; refine (unhide HLN).mono ?_; rintro e w1 ⟨rfl, rfl⟩) | (go_at_call 24; refine (unhide HT).mono ?_; rintro e w1 ⟨rfl, rfl⟩) | (go_at_call 68; refine (unhide HLK).mono ?_; rintro e w2 ⟨rfl, hu⟩; have HB3 := hide (hu.then (below_new w2 (.cells #[.int .i64 cs', .string cn', .bool b0, .bool b1, .bool b2, .bool b3, .bool b4, .bool ok] 103))); clear hu))
      refine ((unhide HWX) _ (unhide HB3).mod').mono ?_
      rintro e w3 ⟨rfl, hb3⟩
      have HB4 := hide ((unhide HB3).then hb3)
      clear hb3
      cases hwx : goes x with
      | true =>
        rw [hwx] at HRC
        go_wp2_with (go_at_call 28; refine ((unhide HPOP) _ (unhide HB4)).mono ?_; rintro e w4 ⟨rfl, hu⟩; have HU4 := hide hu; clear hu)
        go_roundg n
        case measure => omega
        case rel => exact ⟨by go_num, by omega, unhide HU4, (unhide HR).trans (unhide HRC)⟩
      | false =>
        rw [hwx] at HRC
        go_wp2
        go_ret
        have e0 : leaveN goes L L.length = n + 1 := (unhide HR).trans (unhide HRC)
        rw [e0]
        exact ⟨by simp, unhide HB4⟩

set_option maxHeartbeats 1000000 in
theorem implied_1 (c : Cal) (n : ByteArray) (b : Nat) (w : World) (hc : w.cell? ⟨b, 0, none⟩ = some (.string n)) : Calls Try.prog 72 #[.agg #[.int .i64 c.space, .string c.name], .pointer (some ⟨b, 0, none⟩)] w fun e w' => e = .returned (.bool (impM c n)) ∧ Below w.heap.size w w' := by
  have hlt : b < w.heap.size := World.block_lt_of_cell? w _ hc
  have HN : Hid (∀ w1, Calls Try.prog 67 #[.agg #[.int .i64 c.space, .string c.name], .string n] w1 fun e w' => e = .returned (.bool (namedM c n)) ∧ Below w1.heap.size w1 w') := hide (fun w1 => isNamed_any c n w1)
  have HI : Hid (∀ w1, Calls Try.prog 73 #[.agg #[.int .i64 c.space, .string c.name]] w1 fun e w' => e = .returned (.bool (amongM c 0 impT)) ∧ Below w1.heap.size w1 w') := hide (fun w1 => isImplied_any c w1)
  unfold impM
  generalize namedM c n = r2 at *
  generalize amongM c 0 impT = r1 at *
  obtain ⟨cs, cn⟩ := c
  simp only at *
  have HC : Hid (∀ w1, Below (w.alloc (.cells #[.int .i64 cs, .string cn] 100)).heap.size (w.alloc (.cells #[.int .i64 cs, .string cn] 100)) w1 → w1.cell? ⟨b, 0, none⟩ = some (.string n)) := hide (fun w1 hb => by
    rw [(below_box hb).cell (p := ⟨b, 0, none⟩) hlt]
    exact hc)
  cases r1 with
  | true =>
    go_enter Try.func72, Try.ntmps72
    go_wp2_with (first | (go_at_call 73; refine ((unhide HI) _).mono ?_; rintro e w1 ⟨rfl, hb⟩; obtain ⟨y0, y1⟩ := box_after hb; have y2 := (unhide HC) w1 hb; have HB := hide (below_box hb); clear hb) | (go_at_call 67; refine ((unhide HN) _).mono ?_; rintro e w2 ⟨rfl, hb⟩; have HB2 := hide ((unhide HB).trans (hb.mono (unhide HB).size)); clear hb))
    go_ret
    exact ⟨rfl, unhide HB2⟩
  | false =>
    go_enter Try.func72, Try.ntmps72
    go_wp2_with (go_at_call 73; refine ((unhide HI) _).mono ?_; rintro e w1 ⟨rfl, hb⟩; have HB := hide (below_box hb); clear hb)
    go_ret
    exact ⟨rfl, unhide HB⟩

set_option maxHeartbeats 1000000 in
theorem thorough_1 (c : Cal) (w : World) : Calls Try.prog 74 #[.agg #[.int .i64 c.space, .string c.name]] w fun e w' => e = .returned (.bool (thorM c)) ∧ Below w.heap.size w w' := by
  have HN : Hid (∀ w1, Calls Try.prog 75 #[.agg #[.int .i64 c.space, .string c.name]] w1 fun e w' => e = .returned (.bool (amongM c 0 partT)) ∧ Below w1.heap.size w1 w') := hide (fun w1 => isTablePart_any c w1)
  have HI : Hid (∀ w1, Calls Try.prog 73 #[.agg #[.int .i64 c.space, .string c.name]] w1 fun e w' => e = .returned (.bool (amongM c 0 impT)) ∧ Below w1.heap.size w1 w') := hide (fun w1 => isImplied_any c w1)
  unfold thorM
  generalize amongM c 0 partT = r2 at *
  generalize amongM c 0 impT = r1 at *
  obtain ⟨cs, cn⟩ := c
  simp only at *
  cases r1 with
  | false =>
    go_enter Try.func74, Try.ntmps74
    go_wp2_with (first | (go_at_call 73; refine ((unhide HI) _).mono ?_; rintro e w1 ⟨rfl, hb⟩; obtain ⟨y0, y1⟩ := box_after hb; have HB := hide (below_box hb); clear hb) | (go_at_call 75; refine ((unhide HN) _).mono ?_; rintro e w2 ⟨rfl, hb⟩; have HB2 := hide ((unhide HB).trans (hb.mono (unhide HB).size)); clear hb))
    go_ret
    exact ⟨rfl, unhide HB2⟩
  | true =>
    go_enter Try.func74, Try.ntmps74
    go_wp2_with (go_at_call 73; refine ((unhide HI) _).mono ?_; rintro e w1 ⟨rfl, hb⟩; have HB := hide (below_box hb); clear hb)
    go_ret
    exact ⟨rfl, unhide HB⟩

theorem enters72 : ∀ args w, (callFunc 72 args).run Try.prog w = .ok (.enter 72 args) w := enters_of Try.func72 (by kernel_rfl) rfl
theorem enters74 : ∀ args w, (callFunc 74 args).run Try.prog w = .ok (.enter 74 args) w := enters_of Try.func74 (by kernel_rfl) rfl

set_option maxHeartbeats 1000000 in
theorem implied_any (ha : ArK w base bA ks FA) (hs : StkS w base bK bA (elOf ks) L F) (hd : ∀ k, FA k → ¬ F k) (hg : Good ks L) (but : ByteArray) :
    Calls Try.prog 23 #[.pointer (some ⟨bK, 0, none⟩), .string but] w fun e w' => e = .returned (.int .i64 ((L.length : Int) - (impN ks L but : Int))) ∧ UpdS F w w' base bK bA (elOf ks) (L.take (impN ks L but)) := by
  have hbn := below_new w (.cells #[.string but] 9)
  have HC : Hid (Calls Try.prog 71 #[.pointer (some ⟨bK, 0, none⟩), .func (.func 72) #[] #[.pointer (some ⟨w.heap.size, 0, none⟩)]] (w.alloc (.cells #[.string but] 9)) fun e w' => e = .returned (.int .i64 ((L.length : Int) - (impN ks L but : Int))) ∧ UpdS F w w' base bK bA (elOf ks) (L.take (impN ks L but))) := hide (by
    refine (leave_any 72 _ enters72 (fun id => impM (calOf ks id) but) (ha.below hbn) (hs.below hbn) hd hg (fun id _ w1 hm => ?_)).mono ?_
    · refine implied_1 (calOf ks id) but w.heap.size w1 (cell_of_one ((hm.block w.heap.size (by simp) (fun hF => ?_)).trans (heap_alloc_new w _)))
      have := (hs.lt hF).2
      omega
    · rintro e w' ⟨rfl, hu⟩
      exact ⟨rfl, UpdS.after hbn hu⟩)
  generalize impN ks L but = m at *
  clear ha hs hd hg hbn
  go_enter Try.func23, Try.ntmps23
  go_wp2_with (go_at_call 71; refine (unhide HC).mono ?_; rintro e w1 ⟨rfl, hu⟩; have HU := hide hu; clear hu)
  go_ret
  exact ⟨rfl, unhide HU⟩

set_option maxHeartbeats 1000000 in
theorem thorough_any (ha : ArK w base bA ks FA) (hs : StkS w base bK bA (elOf ks) L F) (hd : ∀ k, FA k → ¬ F k) (hg : Good ks L) :
    Calls Try.prog 25 #[.pointer (some ⟨bK, 0, none⟩)] w fun e w' => e = .returned (.int .i64 ((L.length : Int) - (thorN ks L : Int))) ∧ UpdS F w w' base bK bA (elOf ks) (L.take (thorN ks L)) := by
  have HC : Hid (Calls Try.prog 71 #[.pointer (some ⟨bK, 0, none⟩), .func (.func 74) #[] #[]] w fun e w' => e = .returned (.int .i64 ((L.length : Int) - (thorN ks L : Int))) ∧ UpdS F w w' base bK bA (elOf ks) (L.take (thorN ks L))) := hide (
    leave_any 74 #[] enters74 (fun id => thorM (calOf ks id)) ha hs hd hg (fun id _ w1 _ => thorough_1 (calOf ks id) w1))
  generalize thorN ks L = m at *
  clear ha hs hd hg
  go_enter Try.func25, Try.ntmps25
  go_wp2_with (go_at_call 71; refine (unhide HC).mono ?_; rintro e w1 ⟨rfl, hu⟩; have HU := hide hu; clear hu)
  go_ret
  exact ⟨rfl, unhide HU⟩
end
end Go.Proofs.Ytmllhebmaldgfaa
