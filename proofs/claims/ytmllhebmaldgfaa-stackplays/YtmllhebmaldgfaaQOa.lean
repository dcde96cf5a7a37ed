/-
  Elements that leave a stack, plain. Elements that leave a stack: PopTo; leave over any question, Implied, Thorough. Several objects in memory, none part of another; what a call on one of them does to all. awake; StackOrder's elements, plain.
-/
import Derived.Test.YtmllhebmaldgfaaQSh
namespace Go.Proofs.Ytmllhebmaldgfaa
open Go.RowKit

/-- The last place under n at which p holds. -/
def lastI (p : Int → Bool) (L : List Int) : Nat → Option Nat
  | 0 => none
  | n + 1 => match L[n]? with
    | some x => if p x then some n else lastI p L n
    | none => none
theorem lastI_lt {p : Int → Bool} {L : List Int} : ∀ {n i : Nat}, lastI p L n = some i → i < n ∧ ∃ x, L[i]? = some x ∧ p x = true
  | 0, i, h => by simp [lastI] at h
  | n + 1, i, h => by
    rw [lastI] at h
    cases hx : L[n]? with
    | none => rw [hx] at h; cases h
    | some x =>
      rw [hx] at h
      simp only at h
      split at h
      · cases h
        exact ⟨by omega, x, hx, by assumption⟩
      · obtain ⟨h1, h2⟩ := lastI_lt h
        exact ⟨by omega, h2⟩

def popToI (ks : List Key) (L : List Int) (name : ByteArray) : Option Nat := lastI (fun id => namedM (calOf ks id) name) L L.length
def popToL (ks : List Key) (L : List Int) (name : ByteArray) : List Int := match popToI ks L name with
  | some i => L.take i
  | none => L

/-- How many stay, of the first n. -/
def leaveN (p : Int → Bool) (L : List Int) : Nat → Nat
  | 0 => 0
  | n + 1 => match L[n]? with
    | some x => if p x then leaveN p L n else n + 1
    | none => n + 1
theorem leaveN_le (p : Int → Bool) (L : List Int) : ∀ n, leaveN p L n ≤ n
  | 0 => Nat.le_refl _
  | n + 1 => by
    rw [leaveN]
    have := leaveN_le p L n
    split
    · split <;> omega
    · omega

def impM (c : Cal) (but : ByteArray) : Bool := amongM c 0 impT && !namedM c but
def thorM (c : Cal) : Bool := amongM c 0 impT || amongM c 0 partT

/-- How many stay behind Implied, behind Thorough. -/
def impN (ks : List Key) (L : List Int) (but : ByteArray) : Nat := leaveN (fun id => impM (calOf ks id) but) L L.length
def thorN (ks : List Key) (L : List Int) : Nat := leaveN (fun id => thorM (calOf ks id)) L L.length

end Go.Proofs.Ytmllhebmaldgfaa

namespace Go.Proofs.Ytmllhebmaldgfaa
open Go.RowKit

section
variable {w w1 : World} {base bK bA : Nat} {ks : List Key} {L : List Int} {F FA : Nat → Prop}

set_option maxHeartbeats 4000000 in
theorem popTo_any (ha : ArK w base bA ks FA) (hs : StkS w base bK bA (elOf ks) L F) (hd : ∀ k, FA k → ¬ F k) (hg : Good ks L) (name : ByteArray) :
    Calls Try.prog 21 #[.pointer (some ⟨bK, 0, none⟩), .string name] w fun e w' => e = .returned (.bool (popToI ks L name).isSome) ∧ UpdS F w w' base bK bA (elOf ks) (popToL ks L name) := by
  have hl := (Live.mk' ha hs).few hg
  have HAR := hide ha
  have HD := hide hd
  have HS0 := hide hs.self
  have HLN := hide (slen_any hs)
  have hlz : (L.length : Int) ≤ 32768 := by omega
  have HLL := hide hl
  have HFIN : Hid (∀ i, popToI ks L name = some i → popToL ks L name = L.take i) := hide (fun i hi => by unfold popToL; rw [hi])
  have HFIN0 : Hid (popToI ks L name = none → popToL ks L name = L) := hide (fun hi => by unfold popToL; rw [hi])
  clear ha hs hd hg hl
  go_enter Try.func21, Try.ntmps21
  go_wp2_with (go_at_call 22; refine (unhide HLN).mono ?_; rintro e w1 ⟨rfl, rfl⟩)
  go_loopg [5, 6, 7] L.length (fun g s5 _ _ wr => s5 = .int .i64 ((g : Int) - 1) ∧ g ≤ L.length ∧ UpdS F w wr base bK bA (elOf ks) L ∧ popToI ks L name = lastI (fun id => namedM (calOf ks id) name) L g)
  case atStart => exact ⟨rfl, Nat.le_refl _, unhide HS0, rfl⟩
  case round =>
    obtain ⟨rfl, hgl, hb, hrec⟩ := hrel
    have HB := hide hb
    have HR := hide hrec
    clear hrec
    cases gk with
    | zero =>
      clear hb
      go_wp2
      go_ret
      have e0 : popToI ks L name = none := unhide HR
      exact ⟨by rw [e0]; rfl, by rw [(unhide HFIN0) e0]; exact unhide HB⟩
    | succ n =>
      obtain ⟨x, hx⟩ : ∃ x, L[n]? = some x := ⟨_, List.getElem?_eq_getElem (by omega)⟩
      have e1 : (((n + 1 : Nat) : Int) - 1) = (n : Int) := by omega
      rw [e1]
      have HA : Hid (Calls Try.prog 57 #[.pointer (some ⟨bK, 0, none⟩), .int .i64 (n : Int)] wr fun e w' => e = .returned (.int .i64 x) ∧ wr = w') := hide (by
        have := hb.at (n : Int)
        rw [atM_in hx] at this
        exact this)
      have HLK := hide (hb.look ((unhide HAR).mod hb.mod' (unhide HD)) x)
      have HN : Hid (∀ w1, Calls Try.prog 67 #[.agg #[.int .i64 (calOf ks x).space, .string (calOf ks x).name], .string name] w1 fun e w' => e = .returned (.bool (namedM (calOf ks x) name)) ∧ Below w1.heap.size w1 w') := hide (fun w1 => isNamed_any (calOf ks x) name w1)
      have HRC : Hid (lastI (fun id => namedM (calOf ks id) name) L (n + 1) = if namedM (calOf ks x) name then some n else lastI (fun id => namedM (calOf ks id) name) L n) := hide (by rw [lastI, hx])
      unfold knownV at HLK
      generalize borK ks x 0 = b0 at *
      generalize borK ks x 1 = b1 at *
      generalize borK ks x 2 = b2 at *
      generalize borK ks x 3 = b3 at *
      generalize borK ks x 4 = b4 at *
      generalize (elOf ks x).isSome = ok at *
      generalize hcal : calOf ks x = c at *
      obtain ⟨cs', cn'⟩ := c
      simp only at HLK HN HRC
      have hn0 : (0 : Int) ≤ (n : Int) := by omega
      have hnz : (n : Int) ≤ 32768 := by omega
      have HNL : Hid (n ≤ L.length) := hide (by omega)
      clear hb hx e1 hcal
      cases hwx : namedM ⟨cs', cn'⟩ name with
      | true =>
        rw [hwx] at HRC HN
        go_wp2_with (first | (go_at_call 57; refine (unhide HA).mono ?_; rintro e w1 ⟨rfl, rfl⟩) | (go_at_call 68; refine (unhide HLK).mono ?_; rintro e w2 ⟨rfl, hu⟩; have HB3 := hide (hu.then (below_new w2 (.cells #[.int .i64 cs', .string cn', .bool b0, .bool b1, .bool b2, .bool b3, .bool b4, .bool ok] 103))); clear hu) | (go_at_call 67; refine ((unhide HN) _).mono ?_; rintro e w3 ⟨rfl, hb⟩; obtain ⟨bP, p, hc1, hp, hpl, hup⟩ := ((unhide HB3).then hb).open; have HP := hide hp; have HPL := hide hpl; have HUP := hide hup; clear hb hp hpl hup) | (go_at_call 69; refine (cut_any (unhide HPL) (by have := unhide HLL; rw [unhide HP]; omega) n (by rw [unhide HP]; exact unhide HNL)).mono ?_; rintro e w4 ⟨rfl, hu⟩; have HU := hide ((unhide HUP) _ _ hu); clear hu))
        go_ret
        have e0 : popToI ks L name = some n := (unhide HR).trans (unhide HRC)
        have hu := unhide HU
        rw [unhide HP] at hu
        exact ⟨by rw [e0]; rfl, by rw [(unhide HFIN) n e0]; exact hu⟩
      | false =>
        rw [hwx] at HRC HN
        go_wp2_with (first | (go_at_call 57; refine (unhide HA).mono ?_; rintro e w1 ⟨rfl, rfl⟩) | (go_at_call 68; refine (unhide HLK).mono ?_; rintro e w2 ⟨rfl, hu⟩; have HB3 := hide (hu.then (below_new w2 (.cells #[.int .i64 cs', .string cn', .bool b0, .bool b1, .bool b2, .bool b3, .bool b4, .bool ok] 103))); clear hu) | (go_at_call 67; refine ((unhide HN) _).mono ?_; rintro e w3 ⟨rfl, hb⟩; have HB4 := hide ((unhide HB3).then hb); clear hb))
        go_roundg n
        case measure => omega
        case rel => exact ⟨by go_num, by omega, unhide HB4, (unhide HR).trans (unhide HRC)⟩

set_option maxHeartbeats 4000000 in
theorem leave_any (K : Nat) (cs : Array Value) (eg : ∀ args w, (callFunc K args).run Try.prog w = .ok (.enter K args) w) (goes : Int → Bool) (ha : ArK w base bA ks FA) (hs : StkS w base bK bA (elOf ks) L F) (hd : ∀ k, FA k → ¬ F k) (hg : Good ks L)
    (hw : ∀ id, id ∈ L → ∀ w1, Mod F w w1 → Calls Try.prog K (#[.agg #[.int .i64 (calOf ks id).space, .string (calOf ks id).name]] ++ cs) w1 fun e w' => e = .returned (.bool (goes id)) ∧ Below w1.heap.size w1 w') :
    Calls Try.prog 71 #[.pointer (some ⟨bK, 0, none⟩), .func (.func K) #[] cs] w fun e w' =>
      e = .returned (.int .i64 ((L.length : Int) - (leaveN goes L L.length : Int))) ∧ UpdS F w w' base bK bA (elOf ks) (L.take (leaveN goes L L.length)) := by
  have hl := (Live.mk' ha hs).few hg
  have HW := hide hw
  have HA := hide ha
  have HS := hide hs
  have HD := hide hd
  have HG := hide hg
  have hlz : (L.length : Int) ≤ 32768 := by omega
  have HLL := hide hl
  clear ha hs hd hg hw hl
  go_enter Try.func71, Try.ntmps71
  go_wp2
  go_loopg [5, 6, 7] L.length (fun g s5 _ _ wr => s5 = .int .i64 ((L.length : Int) - (g : Int)) ∧ g ≤ L.length ∧ UpdS F w wr base bK bA (elOf ks) (L.take g) ∧ leaveN goes L L.length = leaveN goes L g)
  case atStart => exact ⟨by simp, Nat.le_refl _, by rw [List.take_length]; exact (unhide HS).upd (Below.refl _ _), rfl⟩
  case round =>
    obtain ⟨rfl, hgl, hu, hrec⟩ := hrel
    have HU := hide hu
    have HR := hide hrec
    obtain ⟨F', hst, hmod, hfoot⟩ := hu
    have har := (unhide HA).mod hmod (unhide HD)
    have hlen : (L.take gk).length = gk := by simp; omega
    have HLN : Hid (Calls Try.prog 22 #[.pointer (some ⟨bK, 0, none⟩)] wr fun e w' => e = .returned (.int .i64 (gk : Int)) ∧ wr = w') := hide (by
      have := slen_any hst
      rw [hlen] at this
      exact this)
    clear hrec
    cases gk with
    | zero =>
      clear hst hmod hfoot har hlen
      go_wp2_with (go_at_call 22; refine (unhide HLN).mono ?_; rintro e w1 ⟨rfl, rfl⟩)
      go_ret
      have e0 : leaveN goes L L.length = 0 := unhide HR
      rw [e0]
      exact ⟨by simp, unhide HU⟩
    | succ n =>
      obtain ⟨x, hx⟩ : ∃ x, L[n]? = some x := ⟨_, List.getElem?_eq_getElem (by omega)⟩
      have hxm : x ∈ L := List.mem_of_getElem? hx
      have hx2 : (L.take (n + 1))[n]? = some x := by rw [List.getElem?_take, if_pos (by omega)]; exact hx
      have hg2 : Good ks (L.take (n + 1)) := (unhide HG).sub (List.take_sublist _ _)
      have htop : topM (L.take (n + 1)) = x := by
        unfold topM
        rw [hlen]
        have := atM_in hx2
        rw [show (((n + 1 : Nat) : Int) - 1) = (n : Int) by omega]
        exact this
      have HT : Hid (Calls Try.prog 24 #[.pointer (some ⟨bK, 0, none⟩)] wr fun e w' => e = .returned (.int .i64 x) ∧ wr = w') := hide (by
        have := stop_any hst (by rw [hlen]; omega)
        rw [htop] at this
        exact this)
      have HLK := hide ((unhide HU).look har x)
      have HWX := hide ((unhide HW) x hxm)
      have HPOP : Hid (∀ w1, UpdS F w w1 base bK bA (elOf ks) (L.take (n + 1)) → Calls Try.prog 28 #[.pointer (some ⟨bK, 0, none⟩)] w1 fun e w' => e = .returned (.int .i64 x) ∧ UpdS F w w' base bK bA (elOf ks) (L.take n)) := hide (fun w1 hu1 => by
        obtain ⟨F1, hst1, hmod1, hfoot1⟩ := hu1
        refine (spop_any hst1 hg2 (by rw [hlen]; omega)).mono ?_
        rintro e w' ⟨rfl, hu2⟩
        have e2 : popL (L.take (n + 1)) = L.take n := by
          unfold popL
          rw [hlen, List.take_take]
          congr 1
          omega
        rw [e2] at hu2
        refine ⟨by rw [htop], ?_⟩
        obtain ⟨F2, g1, g2, g3⟩ := hu2
        refine ⟨F2, g1, hmod1.then g2 hfoot1, fun k hk => ?_⟩
        rcases g3 k hk with e | e
        · exact hfoot1 k e
        · exact .inr (Nat.le_trans hmod1.size e))
      have HRC : Hid (leaveN goes L (n + 1) = if goes x then leaveN goes L n else n + 1) := hide (by rw [leaveN, hx])
      unfold knownV at HLK
      generalize borK ks x 0 = b0 at *
      generalize borK ks x 1 = b1 at *
      generalize borK ks x 2 = b2 at *
      generalize borK ks x 3 = b3 at *
      generalize borK ks x 4 = b4 at *
      generalize (elOf ks x).isSome = ok at *
      generalize hcal : calOf ks x = c at *
      obtain ⟨cs', cn'⟩ := c
      simp only at HLK HWX
      have hn0 : (0 : Int) < ((n + 1 : Nat) : Int) := by omega
      have hnz : (n : Int) + 1 ≤ 32768 := by omega
      have hnl : ((n + 1 : Nat) : Int) ≤ (L.length : Int) := by omega
      clear hst hmod hfoot har hlen hx hxm hx2 hg2 htop hcal
      go_wp2_with (first | (go_at_call 22; refine (unhide HLN).mono ?_; rintro e w1 ⟨rfl, rfl⟩) | (go_at_call 24; refine (unhide HT).mono ?_; rintro e w1 ⟨rfl, rfl⟩) | (go_at_call 68; refine (unhide HLK).mono ?_; rintro e w2 ⟨rfl, hu⟩; have HB3 := hide (hu.then (below_new w2 (.cells #[.int .i64 cs', .string cn', .bool b0, .bool b1, .bool b2, .bool b3, .bool b4, .bool ok] 103))); clear hu))
      refine ((unhide HWX) _ (unhide HB3).mod').mono ?_
      rintro e w3 ⟨rfl, hb3⟩
      have HB4 := hide ((unhide HB3).then hb3)
      clear hb3
      cases hwx : goes x with
      | true =>
        rw [hwx] at HRC
        go_wp2_with (go_at_call 28; refine ((unhide HPOP) _ (unhide HB4)).mono ?_; rintro e w4 ⟨rfl, hu⟩; have HU4 := hide hu; clear hu)
        go_roundg n
        case measure => omega
        case rel => exact ⟨by go_num, by omega, unhide HU4, (unhide HR).trans (unhide HRC)⟩
      | false =>
        rw [hwx] at HRC
        go_wp2
        go_ret
        have e0 : leaveN goes L L.length = n + 1 := (unhide HR).trans (unhide HRC)
        rw [e0]
        exact ⟨by simp, unhide HB4⟩

set_option maxHeartbeats 1000000 in
theorem implied_1 (c : Cal) (n : ByteArray) (b : Nat) (w : World) (hc : w.cell? ⟨b, 0, none⟩ = some (.string n)) : Calls Try.prog 72 #[.agg #[.int .i64 c.space, .string c.name], .pointer (some ⟨b, 0, none⟩)] w fun e w' => e = .returned (.bool (impM c n)) ∧ Below w.heap.size w w' := by
  have hlt : b < w.heap.size := World.block_lt_of_cell? w _ hc
  have HN : Hid (∀ w1, Calls Try.prog 67 #[.agg #[.int .i64 c.space, .string c.name], .string n] w1 fun e w' => e = .returned (.bool (namedM c n)) ∧ Below w1.heap.size w1 w') := hide (fun w1 => isNamed_any c n w1)
  have HI : Hid (∀ w1, Calls Try.prog 73 #[.agg #[.int .i64 c.space, .string c.name]] w1 fun e w' => e = .returned (.bool (amongM c 0 impT)) ∧ Below w1.heap.size w1 w') := hide (fun w1 => isImplied_any c w1)
  unfold impM
  generalize namedM c n = r2 at *
  generalize amongM c 0 impT = r1 at *
  obtain ⟨cs, cn⟩ := c
  simp only at *
  have HC : Hid (∀ w1, Below (w.alloc (.cells #[.int .i64 cs, .string cn] 100)).heap.size (w.alloc (.cells #[.int .i64 cs, .string cn] 100)) w1 → w1.cell? ⟨b, 0, none⟩ = some (.string n)) := hide (fun w1 hb => by
    rw [(below_box hb).cell (p := ⟨b, 0, none⟩) hlt]
    exact hc)
  cases r1 with
  | true =>
    go_enter Try.func72, Try.ntmps72
    go_wp2_with (first | (go_at_call 73; refine ((unhide HI) _).mono ?_; rintro e w1 ⟨rfl, hb⟩; obtain ⟨y0, y1⟩ := box_after hb; have y2 := (unhide HC) w1 hb; have HB := hide (below_box hb); clear hb) | (go_at_call 67; refine ((unhide HN) _).mono ?_; rintro e w2 ⟨rfl, hb⟩; have HB2 := hide ((unhide HB).trans (hb.mono (unhide HB).size)); clear hb))
    go_ret
    exact ⟨rfl, unhide HB2⟩
  | false =>
    go_enter Try.func72, Try.ntmps72
    go_wp2_with (go_at_call 73; refine ((unhide HI) _).mono ?_; rintro e w1 ⟨rfl, hb⟩; have HB := hide (below_box hb); clear hb)
    go_ret
    exact ⟨rfl, unhide HB⟩

set_option maxHeartbeats 1000000 in
theorem thorough_1 (c : Cal) (w : World) : Calls Try.prog 74 #[.agg #[.int .i64 c.space, .string c.name]] w fun e w' => e = .returned (.bool (thorM c)) ∧ Below w.heap.size w w' := by
  have HN : Hid (∀ w1, Calls Try.prog 75 #[.agg #[.int .i64 c.space, .string c.name]] w1 fun e w' => e = .returned (.bool (amongM c 0 partT)) ∧ Below w1.heap.size w1 w') := hide (fun w1 => isTablePart_any c w1)
  have HI : Hid (∀ w1, Calls Try.prog 73 #[.agg #[.int .i64 c.space, .string c.name]] w1 fun e w' => e = .returned (.bool (amongM c 0 impT)) ∧ Below w1.heap.size w1 w') := hide (fun w1 => isImplied_any c w1)
  unfold thorM
  generalize amongM c 0 partT = r2 at *
  generalize amongM c 0 impT = r1 at *
  obtain ⟨cs, cn⟩ := c
  simp only at *
  cases r1 with
  | false =>
    go_enter Try.func74, Try.ntmps74
    go_wp2_with (first | (go_at_call 73; refine ((unhide HI) _).mono ?_; rintro e w1 ⟨rfl, hb⟩; obtain ⟨y0, y1⟩ := box_after hb; have HB := hide (below_box hb); clear hb) | (go_at_call 75; refine ((unhide HN) _).mono ?_; rintro e w2 ⟨rfl, hb⟩; have HB2 := hide ((unhide HB).trans (hb.mono (unhide HB).size)); clear hb))
    go_ret
    exact ⟨rfl, unhide HB2⟩
  | true =>
    go_enter Try.func74, Try.ntmps74
    go_wp2_with (go_at_call 73; refine ((unhide HI) _).mono ?_; rintro e w1 ⟨rfl, hb⟩; have HB := hide (below_box hb); clear hb)
    go_ret
    exact ⟨rfl, unhide HB⟩

theorem enters72 : ∀ args w, (callFunc 72 args).run Try.prog w = .ok (.enter 72 args) w := enters_of Try.func72 (by kernel_rfl) rfl
theorem enters74 : ∀ args w, (callFunc 74 args).run Try.prog w = .ok (.enter 74 args) w := enters_of Try.func74 (by kernel_rfl) rfl

set_option maxHeartbeats 1000000 in
theorem implied_any (ha : ArK w base bA ks FA) (hs : StkS w base bK bA (elOf ks) L F) (hd : ∀ k, FA k → ¬ F k) (hg : Good ks L) (but : ByteArray) :
    Calls Try.prog 23 #[.pointer (some ⟨bK, 0, none⟩), .string but] w fun e w' => e = .returned (.int .i64 ((L.length : Int) - (impN ks L but : Int))) ∧ UpdS F w w' base bK bA (elOf ks) (L.take (impN ks L but)) := by
  have hbn := below_new w (.cells #[.string but] 9)
  have HC : Hid (Calls Try.prog 71 #[.pointer (some ⟨bK, 0, none⟩), .func (.func 72) #[] #[.pointer (some ⟨w.heap.size, 0, none⟩)]] (w.alloc (.cells #[.string but] 9)) fun e w' => e = .returned (.int .i64 ((L.length : Int) - (impN ks L but : Int))) ∧ UpdS F w w' base bK bA (elOf ks) (L.take (impN ks L but))) := hide (by
    refine (leave_any 72 _ enters72 (fun id => impM (calOf ks id) but) (ha.below hbn) (hs.below hbn) hd hg (fun id _ w1 hm => ?_)).mono ?_
    · refine implied_1 (calOf ks id) but w.heap.size w1 (cell_of_one ((hm.block w.heap.size (by simp) (fun hF => ?_)).trans (heap_alloc_new w _)))
      have := (hs.lt hF).2
      omega
    · rintro e w' ⟨rfl, hu⟩
      exact ⟨rfl, UpdS.after hbn hu⟩)
  generalize impN ks L but = m at *
  clear ha hs hd hg hbn
  go_enter Try.func23, Try.ntmps23
  go_wp2_with (go_at_call 71; refine (unhide HC).mono ?_; rintro e w1 ⟨rfl, hu⟩; have HU := hide hu; clear hu)
  go_ret
  exact ⟨rfl, unhide HU⟩

set_option maxHeartbeats 1000000 in
theorem thorough_any (ha : ArK w base bA ks FA) (hs : StkS w base bK bA (elOf ks) L F) (hd : ∀ k, FA k → ¬ F k) (hg : Good ks L) :
    Calls Try.prog 25 #[.pointer (some ⟨bK, 0, none⟩)] w fun e w' => e = .returned (.int .i64 ((L.length : Int) - (thorN ks L : Int))) ∧ UpdS F w w' base bK bA (elOf ks) (L.take (thorN ks L)) := by
  have HC : Hid (Calls Try.prog 71 #[.pointer (some ⟨bK, 0, none⟩), .func (.func 74) #[] #[]] w fun e w' => e = .returned (.int .i64 ((L.length : Int) - (thorN ks L : Int))) ∧ UpdS F w w' base bK bA (elOf ks) (L.take (thorN ks L))) := hide (
    leave_any 74 #[] enters74 (fun id => thorM (calOf ks id)) ha hs hd hg (fun id _ w1 _ => thorough_1 (calOf ks id) w1))
  generalize thorN ks L = m at *
  clear ha hs hd hg
  go_enter Try.func25, Try.ntmps25
  go_wp2_with (go_at_call 71; refine (unhide HC).mono ?_; rintro e w1 ⟨rfl, hu⟩; have HU := hide hu; clear hu)
  go_ret
  exact ⟨rfl, unhide HU⟩
end
end Go.Proofs.Ytmllhebmaldgfaa

namespace Go.Proofs.Ytmllhebmaldgfaa
open Go.RowKit

/-- An object: what it is to hold it in the blocks F. -/
structure Ob (base : Nat) where
  holds : World → (Nat → Prop) → Prop
  lt : ∀ w F k, holds w F → F k → base ≤ k ∧ k < w.heap.size
  keep : ∀ w w' F G, holds w F → Mod G w w' → (∀ k, F k → ¬ G k) → holds w' F

/-- The objects, made behind w, none part of another. -/
def Env (w wx : World) (obs : List (Ob w.heap.size)) : Prop :=
  Below w.heap.size w wx ∧ ∃ Fs : List (Nat → Prop), (∀ (i : Nat) o, obs[i]? = some o → ∃ F, Fs[i]? = some F ∧ o.holds wx F) ∧ ∀ (i j : Nat) F G, i ≠ j → Fs[i]? = some F → Fs[j]? = some G → ∀ k, F k → ¬ G k

section
variable {w wx w2 : World} {obs : List (Ob w.heap.size)}

theorem Env.bel (h : Env w wx obs) : Below w.heap.size w wx := h.1
theorem Env.start (w : World) : Env w w [] := ⟨Below.refl _ _, [], fun i o h => by simp at h, fun i j F G _ h => by simp at h⟩

theorem Env.more (h : Env w wx obs) (hb : Below wx.heap.size wx w2) : Env w w2 obs := by
  obtain ⟨h0, Fs, h1, h2⟩ := h
  refine ⟨h0.trans (hb.mono h0.size), Fs, fun i o hi => ?_, h2⟩
  obtain ⟨F, hF, ho⟩ := h1 i o hi
  exact ⟨F, hF, o.keep wx w2 F (fun _ => False) ho (Mod.of_below hb) (fun _ _ e => e)⟩

/-- One object is another; its blocks were written, or it has new ones. -/
theorem Env.upd (h : Env w wx obs) {i : Nat} {o : Ob w.heap.size} (hi : obs[i]? = some o) : ∃ F, o.holds wx F ∧ (∀ (j : Nat) o', j ≠ i → obs[j]? = some o' → ∃ G, o'.holds wx G ∧ ∀ k, G k → ¬ F k) ∧ ∀ w2 (o2 : Ob w.heap.size) F2, o2.holds w2 F2 → Mod F wx w2 → (∀ k, F2 k → F k ∨ wx.heap.size ≤ k) → Env w w2 (obs.set i o2) := by
  obtain ⟨h0, Fs, h1, h2⟩ := h
  obtain ⟨F, hF, ho⟩ := h1 i o hi
  refine ⟨F, ho, fun j o' hj hjo => ?_, fun w2 o2 F2 g1 g2 g3 => ?_⟩
  · obtain ⟨G, hG, hoG⟩ := h1 j o' hjo
    exact ⟨G, hoG, h2 j i G F hj hG hF⟩
  have hlt := (List.getElem?_eq_some_iff.1 hi).1
  have hltF := (List.getElem?_eq_some_iff.1 hF).1
  have old : ∀ (j : Nat) o', j ≠ i → obs[j]? = some o' → ∃ G, Fs[j]? = some G ∧ o'.holds w2 G ∧ ∀ k, G k → ¬ F2 k := by
    intro j o' hj hjo
    obtain ⟨G, hG, hoG⟩ := h1 j o' hjo
    refine ⟨G, hG, o'.keep wx w2 G F hoG g2 (h2 j i G F hj hG hF), fun k hk hk2 => ?_⟩
    rcases g3 k hk2 with h5 | h5
    · exact h2 j i G F hj hG hF k hk h5
    · have := (o'.lt wx G k hoG hk).2; omega
  refine ⟨h0.trans (g2.below h0.size (fun k hk => (o.lt wx F k ho hk).1)), (Fs.take obs.length).set i F2, fun j o' hj => ?_, fun j k G G' hjk hG hG' => ?_⟩
  · have hlj := (List.getElem?_eq_some_iff.1 hj).1
    rw [List.length_set] at hlj
    by_cases e : i = j
    · subst e
      rw [List.getElem?_set_self hlt] at hj
      cases hj
      exact ⟨F2, by rw [List.getElem?_set_self (by rw [List.length_take]; omega)], g1⟩
    · rw [List.getElem?_set_ne e] at hj
      obtain ⟨G, hG, hoG, _⟩ := old j o' (fun h => e h.symm) hj
      exact ⟨G, by rw [List.getElem?_set_ne e, List.getElem?_take, if_pos hlj]; exact hG, hoG⟩
  · have inn : ∀ (a : Nat) A, ((Fs.take obs.length).set i F2)[a]? = some A → (a = i ∧ A = F2) ∨ (a ≠ i ∧ Fs[a]? = some A ∧ a < obs.length) := by
      intro a A hA
      by_cases e : i = a
      · subst e
        rw [List.getElem?_set_self (by rw [List.length_take]; omega)] at hA
        cases hA
        exact .inl ⟨rfl, rfl⟩
      · rw [List.getElem?_set_ne e, List.getElem?_take] at hA
        split at hA
        · exact .inr ⟨fun h => e h.symm, hA, by assumption⟩
        · cases hA
    rcases inn j G hG with ⟨rfl, rfl⟩ | ⟨hj, hG1, hjl⟩
    · rcases inn k G' hG' with ⟨rfl, _⟩ | ⟨hk, hG2, hkl⟩
      · exact absurd rfl hjk
      · obtain ⟨G3, hG3, _, hd⟩ := old k _ hk (List.getElem?_eq_getElem hkl)
        rw [hG2] at hG3
        cases hG3
        intro x hx hx2
        exact hd x hx2 hx
    · rcases inn k G' hG' with ⟨rfl, rfl⟩ | ⟨hk, hG2, hkl⟩
      · obtain ⟨G3, hG3, _, hd⟩ := old j _ hj (List.getElem?_eq_getElem hjl)
        rw [hG1] at hG3
        cases hG3
        exact hd
      · exact h2 j k G G' hjk hG1 hG2

/-- A new object. -/
theorem Env.add (h : Env w wx obs) {o : Ob w.heap.size} {F : Nat → Prop} (hb : Below wx.heap.size wx w2) (ho : o.holds w2 F) (hF : ∀ k, F k → wx.heap.size ≤ k) : Env w w2 (obs ++ [o]) := by
  obtain ⟨h0, Fs, h1, h2⟩ := h
  have all : ∀ (i : Nat) o', obs[i]? = some o' → ∃ G, Fs[i]? = some G ∧ o'.holds w2 G ∧ ∀ k, G k → ¬ F k := by
    intro i o' hi
    obtain ⟨G, hG, hoG⟩ := h1 i o' hi
    exact ⟨G, hG, o'.keep wx w2 G (fun _ => False) hoG (Mod.of_below hb) (fun _ _ e => e), fun k hk hk2 => by
      have := (o'.lt wx G k hoG hk).2
      have := hF k hk2
      omega⟩
  have hlen : ∀ i, i < obs.length → i < Fs.length := by
    intro i hi
    obtain ⟨G, hG, _⟩ := all i _ (List.getElem?_eq_getElem hi)
    exact (List.getElem?_eq_some_iff.1 hG).1
  have hlF : (Fs.take obs.length).length = obs.length := by
    rw [List.length_take]
    rcases Nat.eq_zero_or_pos obs.length with e | e
    · omega
    · have := hlen (obs.length - 1) (by omega); omega
  refine ⟨h0.trans (hb.mono h0.size), Fs.take obs.length ++ [F], fun i o' hi => ?_, fun i j G G' hij hG hG' => ?_⟩
  · by_cases e : i < obs.length
    · rw [List.getElem?_append_left e] at hi
      obtain ⟨G, hG, hoG, _⟩ := all i o' hi
      exact ⟨G, by rw [List.getElem?_append_left (by omega), List.getElem?_take, if_pos e]; exact hG, hoG⟩
    · rw [List.getElem?_append_right (by omega)] at hi
      have := (List.getElem?_eq_some_iff.1 hi).1
      simp at this
      obtain rfl : i = obs.length := by omega
      simp at hi
      subst hi
      exact ⟨F, by rw [List.getElem?_append_right (by omega), hlF]; simp, ho⟩
  · have inn : ∀ (a : Nat) A, (Fs.take obs.length ++ [F])[a]? = some A → (a < obs.length ∧ Fs[a]? = some A) ∨ (a = obs.length ∧ A = F) := by
      intro a A hA
      by_cases e : a < obs.length
      · rw [List.getElem?_append_left (by omega), List.getElem?_take, if_pos e] at hA
        exact .inl ⟨e, hA⟩
      · rw [List.getElem?_append_right (by omega)] at hA
        have := (List.getElem?_eq_some_iff.1 hA).1
        simp at this
        obtain rfl : a = obs.length := by omega
        rw [hlF] at hA
        simp at hA
        exact .inr ⟨rfl, hA.symm⟩
    rcases inn i G hG with ⟨hi, hG1⟩ | ⟨rfl, rfl⟩
    · rcases inn j G' hG' with ⟨hj, hG2⟩ | ⟨rfl, rfl⟩
      · exact h2 i j G G' hij hG1 hG2
      · obtain ⟨G3, hG3, _, hd⟩ := all i _ (List.getElem?_eq_getElem hi)
        rw [hG1] at hG3
        cases hG3
        exact hd
    · rcases inn j G' hG' with ⟨hj, hG2⟩ | ⟨rfl, _⟩
      · obtain ⟨G3, hG3, _, hd⟩ := all j _ (List.getElem?_eq_getElem hj)
        rw [hG2] at hG3
        cases hG3
        intro x hx hx2
        exact hd x hx2 hx
      · exact absurd rfl hij

/-- Some of them, the first ones. -/
theorem Env.take (h : Env w wx obs) (n : Nat) : Env w wx (obs.take n) := by
  obtain ⟨h0, Fs, h1, h2⟩ := h
  refine ⟨h0, Fs, fun i o hi => h1 i o ?_, h2⟩
  rw [List.getElem?_take] at hi
  split at hi
  · exact hi
  · cases hi

end

def arOb (base bA : Nat) (ks : List Key) : Ob base := ⟨fun w F => ArK w base bA ks F, fun _ _ _ h hk => h.lt hk, fun _ _ _ _ h hm hG => h.mod hm hG⟩
def rfOb (base bR : Nat) (ks : List Key) : Ob base := ⟨fun w F => RfK w base bR ks F, fun _ _ _ h hk => h.lt hk, fun _ _ _ _ h hm hG => h.mod hm hG⟩
def stOb (base bK bA : Nat) (ks : List Key) (L : List Int) : Ob base := ⟨fun w F => StkS w base bK bA (elOf ks) L F, fun _ _ _ h hk => h.lt hk, fun _ _ _ _ h hm hG => h.mod hm hG⟩

section
variable {w wx : World} {obs : List (Ob w.heap.size)}
theorem Env.ar (h : Env w wx obs) {i bA : Nat} {ks : List Key} (hi : obs[i]? = some (arOb _ bA ks)) : ∃ F, ArK wx w.heap.size bA ks F ∧ ∀ w2 k2, UpdA F wx w2 w.heap.size bA k2 → Env w w2 (obs.set i (arOb _ bA k2)) := by
  obtain ⟨F, ho, _, hk⟩ := h.upd hi
  refine ⟨F, ho, fun w2 k2 hu => ?_⟩
  obtain ⟨F', h1, h2, h3⟩ := hu
  exact hk w2 (arOb _ bA k2) F' h1 h2 h3
theorem Env.rf (h : Env w wx obs) {i bR : Nat} {ks : List Key} (hi : obs[i]? = some (rfOb _ bR ks)) : ∃ F, RfK wx w.heap.size bR ks F ∧ ∀ w2 k2, UpdR F wx w2 w.heap.size bR k2 → Env w w2 (obs.set i (rfOb _ bR k2)) := by
  obtain ⟨F, ho, _, hk⟩ := h.upd hi
  refine ⟨F, ho, fun w2 k2 hu => ?_⟩
  obtain ⟨F', h1, h2, h3⟩ := hu
  exact hk w2 (rfOb _ bR k2) F' h1 h2 h3
/-- A stack and its arena. -/
theorem Env.two (h : Env w wx obs) {i j bK bA : Nat} {ks : List Key} {L : List Int} (hi : obs[i]? = some (arOb _ bA ks)) (hj : obs[j]? = some (stOb _ bK bA ks L)) (hij : i ≠ j) :
    ∃ FA F, ArK wx w.heap.size bA ks FA ∧ StkS wx w.heap.size bK bA (elOf ks) L F ∧ (∀ k, FA k → ¬ F k) ∧ ∀ w2 L2, UpdS F wx w2 w.heap.size bK bA (elOf ks) L2 → Env w w2 (obs.set j (stOb _ bK bA ks L2)) := by
  obtain ⟨F, ho, hd, hk⟩ := h.upd hj
  obtain ⟨FA, ha, hdis⟩ := hd i _ hij hi
  refine ⟨FA, F, ha, ho, hdis, fun w2 L2 hu => ?_⟩
  obtain ⟨F', h1, h2, h3⟩ := hu
  exact hk w2 (stOb _ bK bA ks L2) F' h1 h2 h3

theorem set_same {α : Type} {l : List α} {j : Nat} {o : α} (h : l[j]? = some o) : l.set j o = l := by
  apply List.ext_getElem?
  intro i
  by_cases e : j = i
  · subst e
    rw [List.getElem?_set_self (List.getElem?_eq_some_iff.1 h).1, h]
  · rw [List.getElem?_set_ne e]
theorem keyAt_more {ks t : List Key} {i : Int} {q : Key} (h : keyAt ks i = some q) : keyAt (ks ++ t) i = some q := by
  unfold keyAt at h ⊢
  split at h
  · rw [if_pos (by assumption), List.getElem?_append_left (List.getElem?_eq_some_iff.1 h).1]
    exact h
  · cases h
theorem elOf_more {ks t : List Key} {i : Int} {c : Cal} (h : elOf ks i = some c) : elOf (ks ++ t) i = some c := by
  cases hk : keyAt ks i with
  | none => rw [elOf_none hk] at h; cases h
  | some q => rw [elOf_key (keyAt_more hk), ← elOf_key hk]; exact h
theorem StkS.mono {w : World} {base bK bA : Nat} {el el2 : Int → Option Cal} {L : List Int} {F : Nat → Prop} (h : StkS w base bK bA el L F) (hm : ∀ i c, el i = some c → el2 i = some c) : StkS w base bK bA el2 L F := by
  obtain ⟨bP, bM, p, v, ms, h1, hc, e, hF⟩ := h
  exact ⟨bP, bM, p, v, ms, h1, hc.mono hm, e, hF⟩
/-- The arena has more nodes: the stack is one of them all. -/
theorem Env.stay (h : Env w wx obs) {j bK bA : Nat} {ks k2 : List Key} {L : List Int} (hj : obs[j]? = some (stOb _ bK bA ks L)) (hk : ∃ t, k2 = ks ++ t) : Env w wx (obs.set j (stOb _ bK bA k2 L)) := by
  obtain ⟨t, rfl⟩ := hk
  obtain ⟨F, ho, _, hk⟩ := h.upd hj
  exact hk wx (stOb _ bK bA (ks ++ t) L) F (StkS.mono ho fun i c hc => elOf_more hc) (Mod.of_below (Below.refl _ _)) (fun k hk => .inl hk)

theorem env_new (h : Env w wx obs) : Calls Try.prog 26 #[] wx fun e w' => ∃ bA, e = .returned (.pointer (some ⟨bA, 0, none⟩)) ∧ Env w w' (obs ++ [arOb _ bA [⟨0, 0, emptyS⟩]]) := by
  refine (new_k wx w.heap.size h.bel.size).mono ?_
  rintro e w' ⟨bA, F, rfl, h1, h2, h3⟩
  exact ⟨bA, rfl, h.add h2 (o := arOb _ bA _) h1 h3⟩
theorem env_rnew (h : Env w wx obs) : Calls Try.prog 35 #[] wx fun e w' => ∃ bR, e = .returned (.pointer (some ⟨bR, 0, none⟩)) ∧ Env w w' (obs ++ [rfOb _ bR [⟨0, 0, emptyS⟩]]) := by
  refine (refNew_k wx w.heap.size h.bel.size).mono ?_
  rintro e w' ⟨bR, F, rfl, h1, h2, h3⟩
  exact ⟨bR, rfl, h.add h2 (o := rfOb _ bR _) h1 h3⟩
theorem env_elem (h : Env w wx obs) {i bA : Nat} {ks : List Key} (hi : obs[i]? = some (arOb _ bA ks)) (sp : Int) (nm : ByteArray) :
    Calls Try.prog 27 #[.pointer (some ⟨bA, 0, none⟩), .int .i64 sp, .string nm, .slice none 0 0] wx fun e w' => e = .returned (.tuple #[.int .i64 (elemK ks sp nm).2.1, .int .i64 (elemK ks sp nm).2.2]) ∧ Env w w' (obs.set i (arOb _ bA (elemK ks sp nm).1)) := by
  obtain ⟨F, h1, h2⟩ := h.ar hi
  exact (element_k h1 sp nm).mono fun _ _ ⟨a, b⟩ => ⟨a, h2 _ _ b⟩
theorem env_relem (h : Env w wx obs) {i bR : Nat} {ks : List Key} (hi : obs[i]? = some (rfOb _ bR ks)) (sp : Int) (nm : ByteArray) :
    Calls Try.prog 36 #[.pointer (some ⟨bR, 0, none⟩), .int .i64 sp, .string nm, .slice none 0 0] wx fun e w' => e = .returned (.tuple #[.int .i64 (elemK ks sp nm).2.1, .int .i64 (elemK ks sp nm).2.2]) ∧ Env w w' (obs.set i (rfOb _ bR (elemK ks sp nm).1)) := by
  obtain ⟨F, h1, h2⟩ := h.rf hi
  exact (refElement_k h1 sp nm).mono fun _ _ ⟨a, b⟩ => ⟨a, h2 _ _ b⟩
theorem env_text (h : Env w wx obs) {i bA : Nat} {ks : List Key} (hi : obs[i]? = some (arOb _ bA ks)) (s : ByteArray) :
    Calls Try.prog 37 #[.pointer (some ⟨bA, 0, none⟩), .string s] wx fun e w' => e = .returned (.tuple #[.int .i64 (textK ks s).2.1, .int .i64 (textK ks s).2.2]) ∧ Env w w' (obs.set i (arOb _ bA (textK ks s).1)) := by
  obtain ⟨F, h1, h2⟩ := h.ar hi
  exact (text_k h1 s).mono fun _ _ ⟨a, b⟩ => ⟨a, h2 _ _ b⟩
theorem env_rtext (h : Env w wx obs) {i bR : Nat} {ks : List Key} (hi : obs[i]? = some (rfOb _ bR ks)) (s : ByteArray) :
    Calls Try.prog 38 #[.pointer (some ⟨bR, 0, none⟩), .string s] wx fun e w' => e = .returned (.tuple #[.int .i64 (textK ks s).2.1, .int .i64 (textK ks s).2.2]) ∧ Env w w' (obs.set i (rfOb _ bR (textK ks s).1)) := by
  obtain ⟨F, h1, h2⟩ := h.rf hi
  exact (refText_k h1 s).mono fun _ _ ⟨a, b⟩ => ⟨a, h2 _ _ b⟩
theorem env_snew (h : Env w wx obs) {i bA : Nat} {ks : List Key} (hi : obs[i]? = some (arOb _ bA ks)) :
    Calls Try.prog 10 #[.pointer (some ⟨bA, 0, none⟩)] wx fun e w' => ∃ bK, e = .returned (.tuple #[.pointer (some ⟨bK, 0, none⟩), .int .i64 0]) ∧ Env w w' (obs ++ [stOb _ bK bA ks []]) := by
  obtain ⟨F, h1, _⟩ := h.ar hi
  refine (snew_any h1 h.bel.size).mono ?_
  rintro e w' ⟨bK, F, rfl, h1, h2, h3⟩
  exact ⟨bK, rfl, h.add h2 (o := stOb _ bK bA ks []) (h1 _) h3⟩
theorem env_alen (h : Env w wx obs) {i bA : Nat} {ks : List Key} (hi : obs[i]? = some (arOb _ bA ks)) : Calls Try.prog 17 #[.pointer (some ⟨bA, 0, none⟩)] wx fun e w' => e = .returned (.int .i64 ks.length) ∧ wx = w' := by
  obtain ⟨F, h1, _⟩ := h.ar hi
  exact len_k h1
theorem Env.most (h : Env w wx obs) {i bA : Nat} {ks : List Key} (hi : obs[i]? = some (arOb _ bA ks)) : ks.length ≤ 32768 ∧ 0 < ks.length := by
  obtain ⟨F, h1, _⟩ := h.ar hi
  exact h1.most

section
variable {i j bK bA : Nat} {ks : List Key} {L : List Int}
theorem Env.live (h : Env w wx obs) (hi : obs[i]? = some (arOb _ bA ks)) (hj : obs[j]? = some (stOb _ bK bA ks L)) (hij : i ≠ j) : Live wx w.heap.size bK bA ks L := by
  obtain ⟨FA, F, h1, h2, _⟩ := h.two hi hj hij
  exact Live.mk' h1 h2
theorem env_push (h : Env w wx obs) (hi : obs[i]? = some (arOb _ bA ks)) (hj : obs[j]? = some (stOb _ bK bA ks L)) (hij : i ≠ j) (hg : Good ks L) (id : Int) :
    Calls Try.prog 19 #[.pointer (some ⟨bK, 0, none⟩), .int .i64 id] wx fun e w' => e = .returned (.int .i64 (enterE ks L id)) ∧ Env w w' (obs.set j (stOb _ bK bA ks (pushL ks L id))) := by
  obtain ⟨FA, F, h1, h2, _, h4⟩ := h.two hi hj hij
  exact (spush_any h1 h2 hg id).mono fun _ _ ⟨a, b⟩ => ⟨a, h4 _ _ b⟩
theorem env_pop (h : Env w wx obs) (hi : obs[i]? = some (arOb _ bA ks)) (hj : obs[j]? = some (stOb _ bK bA ks L)) (hij : i ≠ j) (hg : Good ks L) :
    Calls Try.prog 28 #[.pointer (some ⟨bK, 0, none⟩)] wx fun e w' => e = .returned (.int .i64 (topM L)) ∧ Env w w' (obs.set j (stOb _ bK bA ks (popL L))) := by
  obtain ⟨FA, F, h1, h2, _, h4⟩ := h.two hi hj hij
  exact (spop_any h2 hg ((Live.mk' h1 h2).few hg)).mono fun _ _ ⟨a, b⟩ => ⟨a, h4 _ _ b⟩
theorem env_remove (h : Env w wx obs) (hi : obs[i]? = some (arOb _ bA ks)) (hj : obs[j]? = some (stOb _ bK bA ks L)) (hij : i ≠ j) (hg : Good ks L) (id : Int) :
    Calls Try.prog 41 #[.pointer (some ⟨bK, 0, none⟩), .int .i64 id] wx fun e w' => e = .returned (.int .i64 (removeE L id)) ∧ Env w w' (obs.set j (stOb _ bK bA ks (removeL L id))) := by
  obtain ⟨FA, F, h1, h2, _, h4⟩ := h.two hi hj hij
  exact (sremove_any h2 hg ((Live.mk' h1 h2).few hg) id).mono fun _ _ ⟨a, b⟩ => ⟨a, h4 _ _ b⟩
theorem env_put (h : Env w wx obs) (hi : obs[i]? = some (arOb _ bA ks)) (hj : obs[j]? = some (stOb _ bK bA ks L)) (hij : i ≠ j) (hg : Good ks L) (at' id : Int) :
    Calls Try.prog 43 #[.pointer (some ⟨bK, 0, none⟩), .int .i64 at', .int .i64 id] wx fun e w' => e = .returned (.int .i64 (putE ks L at' id)) ∧ Env w w' (obs.set j (stOb _ bK bA ks (putL ks L at' id))) := by
  obtain ⟨FA, F, h1, h2, _, h4⟩ := h.two hi hj hij
  exact (sput_any h1 h2 hg at' id).mono fun _ _ ⟨a, b⟩ => ⟨a, h4 _ _ b⟩
theorem env_swap (h : Env w wx obs) (hi : obs[i]? = some (arOb _ bA ks)) (hj : obs[j]? = some (stOb _ bK bA ks L)) (hij : i ≠ j) (hg : Good ks L) (old id : Int) :
    Calls Try.prog 45 #[.pointer (some ⟨bK, 0, none⟩), .int .i64 old, .int .i64 id] wx fun e w' => e = .returned (.int .i64 (swapE ks L old id)) ∧ Env w w' (obs.set j (stOb _ bK bA ks (swapL ks L old id))) := by
  obtain ⟨FA, F, h1, h2, _, h4⟩ := h.two hi hj hij
  exact (sswap_any h1 h2 hg old id).mono fun _ _ ⟨a, b⟩ => ⟨a, h4 _ _ b⟩
theorem env_scope (h : Env w wx obs) (hi : obs[i]? = some (arOb _ bA ks)) (hj : obs[j]? = some (stOb _ bK bA ks L)) (hij : i ≠ j) (hg : Good ks L) (name : ByteArray) (kind : Int) :
    Calls Try.prog 20 #[.pointer (some ⟨bK, 0, none⟩), .string name, .int .i64 kind] wx fun e w' => e = .returned (.bool (scopeM ks L name kind)) ∧ Env w w' obs := by
  obtain ⟨FA, F, h1, h2, h3, h4⟩ := h.two hi hj hij
  refine (scope_any h1 h2 h3 hg name kind).mono fun _ _ ⟨a, b⟩ => ⟨a, ?_⟩
  have := h4 _ _ b
  rwa [set_same hj] at this
theorem env_nodeScope (h : Env w wx obs) (hi : obs[i]? = some (arOb _ bA ks)) (hj : obs[j]? = some (stOb _ bK bA ks L)) (hij : i ≠ j) (hg : Good ks L) (id kind : Int) :
    Calls Try.prog 48 #[.pointer (some ⟨bK, 0, none⟩), .int .i64 id, .int .i64 kind] wx fun e w' => e = .returned (.bool (nodeScopeM ks L id kind)) ∧ Env w w' obs := by
  obtain ⟨FA, F, h1, h2, h3, h4⟩ := h.two hi hj hij
  refine (nodeScope_any h1 h2 h3 hg id kind).mono fun _ _ ⟨a, b⟩ => ⟨a, ?_⟩
  have := h4 _ _ b
  rwa [set_same hj] at this
theorem env_special (h : Env w wx obs) (hi : obs[i]? = some (arOb _ bA ks)) (hj : obs[j]? = some (stOb _ bK bA ks L)) (hij : i ≠ j) (id : Int) :
    Calls Try.prog 53 #[.pointer (some ⟨bK, 0, none⟩), .int .i64 id] wx fun e w' => e = .returned (.bool (specM ks id)) ∧ Env w w' obs := by
  obtain ⟨FA, F, h1, h2, h3, h4⟩ := h.two hi hj hij
  refine (sspecial_any h1 h2 id).mono fun _ _ ⟨a, b⟩ => ⟨a, ?_⟩
  have := h4 _ _ b
  rwa [set_same hj] at this
theorem env_popTo (h : Env w wx obs) (hi : obs[i]? = some (arOb _ bA ks)) (hj : obs[j]? = some (stOb _ bK bA ks L)) (hij : i ≠ j) (hg : Good ks L) (name : ByteArray) :
    Calls Try.prog 21 #[.pointer (some ⟨bK, 0, none⟩), .string name] wx fun e w' => e = .returned (.bool (popToI ks L name).isSome) ∧ Env w w' (obs.set j (stOb _ bK bA ks (popToL ks L name))) := by
  obtain ⟨FA, F, h1, h2, h3, h4⟩ := h.two hi hj hij
  exact (popTo_any h1 h2 h3 hg name).mono fun _ _ ⟨a, b⟩ => ⟨a, h4 _ _ b⟩
theorem env_implied (h : Env w wx obs) (hi : obs[i]? = some (arOb _ bA ks)) (hj : obs[j]? = some (stOb _ bK bA ks L)) (hij : i ≠ j) (hg : Good ks L) (but : ByteArray) :
    Calls Try.prog 23 #[.pointer (some ⟨bK, 0, none⟩), .string but] wx fun e w' => e = .returned (.int .i64 ((L.length : Int) - (impN ks L but : Int))) ∧ Env w w' (obs.set j (stOb _ bK bA ks (L.take (impN ks L but)))) := by
  obtain ⟨FA, F, h1, h2, h3, h4⟩ := h.two hi hj hij
  exact (implied_any h1 h2 h3 hg but).mono fun _ _ ⟨a, b⟩ => ⟨a, h4 _ _ b⟩
theorem env_thorough (h : Env w wx obs) (hi : obs[i]? = some (arOb _ bA ks)) (hj : obs[j]? = some (stOb _ bK bA ks L)) (hij : i ≠ j) (hg : Good ks L) :
    Calls Try.prog 25 #[.pointer (some ⟨bK, 0, none⟩)] wx fun e w' => e = .returned (.int .i64 ((L.length : Int) - (thorN ks L : Int))) ∧ Env w w' (obs.set j (stOb _ bK bA ks (L.take (thorN ks L)))) := by
  obtain ⟨FA, F, h1, h2, h3, h4⟩ := h.two hi hj hij
  exact (thorough_any h1 h2 h3 hg).mono fun _ _ ⟨a, b⟩ => ⟨a, h4 _ _ b⟩
theorem env_len (h : Env w wx obs) (hj : obs[j]? = some (stOb _ bK bA ks L)) : Calls Try.prog 22 #[.pointer (some ⟨bK, 0, none⟩)] wx fun e w' => e = .returned (.int .i64 L.length) ∧ wx = w' := by
  obtain ⟨F, ho, _⟩ := h.upd hj
  exact slen_any ho
theorem env_at (h : Env w wx obs) (hj : obs[j]? = some (stOb _ bK bA ks L)) (i : Int) : Calls Try.prog 57 #[.pointer (some ⟨bK, 0, none⟩), .int .i64 i] wx fun e w' => e = .returned (.int .i64 (atM L i)) ∧ wx = w' := by
  obtain ⟨F, ho, _⟩ := h.upd hj
  exact sat_any ho i
theorem env_top (h : Env w wx obs) (hi : obs[i]? = some (arOb _ bA ks)) (hj : obs[j]? = some (stOb _ bK bA ks L)) (hij : i ≠ j) (hg : Good ks L) : Calls Try.prog 24 #[.pointer (some ⟨bK, 0, none⟩)] wx fun e w' => e = .returned (.int .i64 (topM L)) ∧ wx = w' := by
  obtain ⟨FA, F, h1, h2, _⟩ := h.two hi hj hij
  exact stop_any h2 (by have := (Live.mk' h1 h2).few hg; omega)
theorem env_find (h : Env w wx obs) (hi : obs[i]? = some (arOb _ bA ks)) (hj : obs[j]? = some (stOb _ bK bA ks L)) (hij : i ≠ j) (hg : Good ks L) (x : Int) : Calls Try.prog 13 #[.pointer (some ⟨bK, 0, none⟩), .int .i64 x] wx fun e w' => e = .returned (.int .i64 (findM L x)) ∧ wx = w' := by
  obtain ⟨FA, F, h1, h2, _⟩ := h.two hi hj hij
  exact sfind_any h2 (by have := (Live.mk' h1 h2).few hg; omega) hg.nodup x
end
end
end Go.Proofs.Ytmllhebmaldgfaa

namespace Go.Proofs.Ytmllhebmaldgfaa
open Go.RowKit

set_option maxHeartbeats 1000000 in
theorem awake_any (w : World) : Calls Try.prog 16 #[] w fun e w' => e = .returned (.bool true) ∧ Below w.heap.size w w' := by
  have H0 := hide (Env.start w)
  go_enter Try.func16, Try.ntmps16
  go_wp2_with (first
    | (go_at_call 26; refine (env_new (unhide H0)).mono ?_; rintro e w1 ⟨bA, rfl, hv⟩; have H1 := hide hv; clear hv)
    | (go_at_call 10; refine (env_snew (unhide H1) (i := 0) (bA := bA) rfl).mono ?_; rintro e w2 ⟨bK, rfl, hv⟩; have H2 := hide hv; clear hv)
    | (go_at_call 24; refine (env_top (unhide H2) (i := 0) (j := 1) (bK := bK) (bA := bA) (L := []) rfl rfl (by decide) (Good.nil _)).mono ?_; rintro e w3 ⟨rfl, rfl⟩; simp only [topM_nil]))
  go_ret
  exact ⟨rfl, (unhide H2).bel⟩

theorem env_awake {w wx : World} {obs : List (Ob w.heap.size)} (h : Env w wx obs) : Calls Try.prog 16 #[] wx fun e w' => e = .returned (.bool true) ∧ Env w w' obs :=
  (awake_any wx).mono fun _ _ ⟨a, b⟩ => ⟨a, h.more b⟩

def pB : ByteArray := ⟨#[112]⟩
def ksN (n : Nat) : List Key := ⟨0, 0, emptyS⟩ :: List.replicate n ⟨1, 0, pB⟩
def upTo (n : Nat) : List Int := (List.range n).map fun (j : Nat) => (j : Int) + 1
theorem ksN_len (n : Nat) : (ksN n).length = n + 1 := by simp [ksN]
theorem upTo_len (n : Nat) : (upTo n).length = n := by simp [upTo]
theorem upTo_succ (n : Nat) : upTo (n + 1) = upTo n ++ [(n : Int) + 1] := by simp [upTo, List.range_succ]
theorem upTo_mem {n : Nat} {x : Int} : x ∈ upTo n ↔ 1 ≤ x ∧ x ≤ n := by
  unfold upTo
  rw [List.mem_map]
  constructor
  · rintro ⟨j, hj, rfl⟩
    have := List.mem_range.1 hj
    omega
  · rintro ⟨h1, h2⟩
    exact ⟨(x - 1).toNat, List.mem_range.2 (by omega), by omega⟩
theorem upTo_nodup (n : Nat) : (upTo n).Nodup := by
  induction n with
  | zero => simp [upTo]
  | succ n ih =>
    rw [upTo_succ, List.nodup_append]
    refine ⟨ih, by simp, ?_⟩
    intro a ha b hb e
    simp at hb
    subst hb e
    have := (upTo_mem.1 ha).2
    omega
theorem ksN_succ (n : Nat) : ksN n ++ [⟨1, 0, pB⟩] = ksN (n + 1) := by
  unfold ksN
  rw [List.replicate_succ']
  rfl
theorem elemK_p (n : Nat) (hn : n ≤ 100) : elemK (ksN n) 0 pB = (ksN (n + 1), (n : Int) + 1, 0) := by
  unfold elemK addK
  rw [if_neg (by omega), if_neg (by decide +kernel), if_neg (by decide +kernel), ksN_len, if_pos (by omega), ksN_succ]
  simp
theorem elOf_ksN {n : Nat} {x : Int} (h : 1 ≤ x ∧ x ≤ n) : (elOf (ksN n) x).isSome = true := by
  obtain ⟨i, rfl⟩ : ∃ i : Nat, x = (i : Int) + 1 := ⟨(x - 1).toNat, by omega⟩
  have : keyAt (ksN n) ((i : Int) + 1) = some ⟨1, 0, pB⟩ := by
    unfold keyAt
    rw [if_pos (by omega), show ((i : Int) + 1).toNat = i + 1 by omega]
    show (List.replicate n (⟨1, 0, pB⟩ : Key))[i]? = some _
    rw [List.getElem?_replicate, if_pos (by omega)]
  rw [elOf_key this]
  rfl
theorem good_N (n m : Nat) (h : m ≤ n) : Good (ksN n) (upTo m) := ⟨upTo_nodup m, fun x hx => elOf_ksN (by have := upTo_mem.1 hx; omega)⟩
theorem enter_new (n : Nat) : enterE (ksN (n + 1)) (upTo n) ((n : Int) + 1) = 0 := by
  unfold enterE
  rw [if_pos (elOf_ksN (by omega)), if_neg (fun h => by have := upTo_mem.1 h; omega)]
theorem enter_old (n : Nat) : enterE (ksN (n + 1)) (upTo (n + 1)) ((n : Int) + 1) = 1 := by
  unfold enterE
  rw [if_pos (elOf_ksN (by omega)), if_pos (upTo_mem.2 (by omega))]
theorem push_new (n : Nat) : pushL (ksN (n + 1)) (upTo n) ((n : Int) + 1) = upTo (n + 1) := by
  unfold pushL
  rw [if_pos (enter_new n), upTo_succ]
theorem push_old (n : Nat) : pushL (ksN (n + 1)) (upTo (n + 1)) ((n : Int) + 1) = upTo (n + 1) := by
  unfold pushL
  rw [enter_old, if_neg (by decide)]
theorem upTo_last (n : Nat) : (upTo (n + 1))[n]? = some ((n : Int) + 1) := by
  rw [upTo_succ, List.getElem?_append_right (by rw [upTo_len]; omega), upTo_len]
  simp
theorem find_new (n : Nat) : findM (upTo (n + 1)) ((n : Int) + 1) = n := by
  rw [findM, if_pos (upTo_mem.2 (by omega)), idxOf_at (upTo_nodup _) (upTo_last n)]
theorem top_upTo (n : Nat) : topM (upTo (n + 1)) = (n : Int) + 1 := by
  unfold topM
  rw [upTo_len, show (((n + 1 : Nat) : Int) - 1) = (n : Int) by omega]
  exact atM_in (upTo_last n)
theorem pop_upTo (n : Nat) : popL (upTo (n + 1)) = upTo n := by
  unfold popL
  rw [upTo_len, Nat.add_sub_cancel, upTo_succ, List.take_left' (upTo_len n)]
theorem find_gone (n : Nat) : findM (upTo n) ((n : Int) + 1) = -1 := findM_out (fun h => by have := upTo_mem.1 h; omega)
theorem enter_doc (n : Nat) (L : List Int) : enterE (ksN n) L 0 = 6 := by
  have : elOf (ksN n) 0 = none := by
    have hk : keyAt (ksN n) 0 = some ⟨0, 0, emptyS⟩ := rfl
    rw [elOf_key hk]
    rfl
  unfold enterE
  rw [this]
  rfl
end Go.Proofs.Ytmllhebmaldgfaa
