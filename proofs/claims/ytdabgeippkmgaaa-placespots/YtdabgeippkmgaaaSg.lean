import Derived.Test.YtdabgeippkmgaaaSf
/-
  Elements that leave a stack: PopTo; leave over any question, Implied, Thorough.
-/
namespace Go.Proofs.Ytdabgeippkmgaaa
open Go.RowKit

/-- The last place under n at which p holds. -/
def lastI (p : Int → Bool) (L : List Int) : Nat → Option Nat
  | 0 => none
  | n + 1 => match L[n]? with
    | some x => if p x then some n else lastI p L n
    | none => none
theorem lastI_lt {p : Int → Bool} {L : List Int} : ∀ {n i : Nat}, lastI p L n = some i → i < n ∧ ∃ x, L[i]? = some x ∧ p x = true
  | 0, i, h => by simp [lastI] at h
  | n + 1, i, h => by
    rw [lastI] at h
    cases hx : L[n]? with
    | none => rw [hx] at h; cases h
    | some x =>
      rw [hx] at h
      simp only at h
      split at h
      · cases h
        exact ⟨by omega, x, hx, by assumption⟩
      · obtain ⟨h1, h2⟩ := lastI_lt h
        exact ⟨by omega, h2⟩

def popToI (ks : List Key) (L : List Int) (name : ByteArray) : Option Nat := lastI (fun id => namedM (calOf ks id) name) L L.length
def popToL (ks : List Key) (L : List Int) (name : ByteArray) : List Int := match popToI ks L name with
  | some i => L.take i
  | none => L

section
variable {w : World} {base bK bA : Nat} {ks : List Key} {L : List Int} {F FA : Nat → Prop}

set_option maxHeartbeats 4000000 in
theorem popTo_any (ha : ArK w base bA ks FA) (hs : StkS w base bK bA L F) (hg : Good ks L) (name : ByteArray) :
    Calls Try.prog 62 #[.pointer (some ⟨bK, 0, none⟩), .string name] w fun e w' => e = .returned (.bool (popToI ks L name).isSome) ∧ UpdS F w w' base bK bA (popToL ks L name) := by
  have hl := (Live.mk' ha hs).few hg
  have HLV := hide (Live.mk' ha hs)
  have HS := hide hs
  have HLN := hide (slen_any hs)
  have hlz : (L.length : Int) ≤ 32768 := by omega
  have HLL := hide hl
  obtain ⟨bP, ho⟩ := hs.open
  have HO := hide ho
  have HFIN : Hid (∀ i, popToI ks L name = some i → popToL ks L name = L.take i) := hide (fun i hi => by unfold popToL; rw [hi])
  have HFIN0 : Hid (popToI ks L name = none → popToL ks L name = L) := hide (fun hi => by unfold popToL; rw [hi])
  clear ha hs hg hl ho
  go_enter Try.func62, Try.ntmps62
  go_wp2_with (go_at_call 74; refine (unhide HLN).mono ?_; rintro e w1 ⟨rfl, rfl⟩)
  go_loopg [5, 6, 7] L.length (fun g s5 _ _ wr => s5 = .int .i64 ((g : Int) - 1) ∧ g ≤ L.length ∧ Below w.heap.size w wr ∧ popToI ks L name = lastI (fun id => namedM (calOf ks id) name) L g)
  case atStart => exact ⟨rfl, Nat.le_refl _, Below.refl _ _, rfl⟩
  case round =>
    obtain ⟨rfl, hgl, hb, hrec⟩ := hrel
    have HB := hide hb
    have HR := hide hrec
    clear hrec
    cases gk with
    | zero =>
      clear hb
      go_wp2
      go_ret
      have e0 : popToI ks L name = none := unhide HR
      exact ⟨by rw [e0]; rfl, by rw [(unhide HFIN0) e0]; exact (unhide HS).upd (unhide HB)⟩
    | succ n =>
      obtain ⟨x, hx⟩ : ∃ x, L[n]? = some x := ⟨_, List.getElem?_eq_getElem (by omega)⟩
      have e1 : (((n + 1 : Nat) : Int) - 1) = (n : Int) := by omega
      rw [e1]
      have HA : Hid (Calls Try.prog 72 #[.pointer (some ⟨bK, 0, none⟩), .int .i64 (n : Int)] wr fun e w' => e = .returned (.int .i64 x) ∧ wr = w') := hide (by
        have := sat_any (((unhide HLV).below hb).st.choose_spec) (n : Int)
        rw [atM_in hx] at this
        exact this)
      have HLK : Hid (Calls Try.prog 144 #[.pointer (some ⟨bK, 0, none⟩), .int .i64 x] wr fun e w' => e = .returned (.tuple #[.agg #[.int .i64 (calOf ks x).space, .string (calOf ks x).name], .bool (elOf ks x).isSome]) ∧ Below wr.heap.size wr w') := hide (look_any ((unhide HLV).below hb) x)
      have HN : Hid (∀ w1, Calls Try.prog 140 #[.agg #[.int .i64 (calOf ks x).space, .string (calOf ks x).name], .string name] w1 fun e w' => e = .returned (.bool (namedM (calOf ks x) name)) ∧ Below w1.heap.size w1 w') := hide (fun w1 => isNamed_any (calOf ks x) name w1)
      have HRC : Hid (lastI (fun id => namedM (calOf ks id) name) L (n + 1) = if namedM (calOf ks x) name then some n else lastI (fun id => namedM (calOf ks id) name) L n) := hide (by rw [lastI, hx])
      generalize (elOf ks x).isSome = ok at *
      generalize hcal : calOf ks x = c at *
      obtain ⟨cs', cn'⟩ := c
      simp only at HLK HN HRC
      have hn0 : (0 : Int) ≤ (n : Int) := by omega
      have hnz : (n : Int) ≤ 32768 := by omega
      have HNL : Hid (n ≤ L.length) := hide (by omega)
      clear hb hx e1 hcal
      cases hwx : namedM ⟨cs', cn'⟩ name with
      | true =>
        rw [hwx] at HRC HN
        go_wp2_with (first | (go_at_call 72; refine (unhide HA).mono ?_; rintro e w1 ⟨rfl, rfl⟩) | (go_at_call 144; refine (unhide HLK).mono ?_; rintro e w2 ⟨rfl, hb⟩; have HB2 := hide ((unhide HB).trans (hb.mono (unhide HB).size)); clear hb) | (go_at_call 140; refine ((unhide HN) _).mono ?_; rintro e w3 ⟨rfl, hb⟩; have B3 := ((unhide HB2).alloc (unhide HB2).size (.cells #[.int .i64 cs', .string cn'] 194)).trans (hb.mono ((unhide HB2).alloc (unhide HB2).size (.cells #[.int .i64 cs', .string cn'] 194)).size); obtain ⟨hc1, p, hp, hpl, hup⟩ := (unhide HO) w3 B3; have HP := hide hp; have HPL := hide hpl; have HUP := hide hup; clear hb B3 hp hpl hup) | (go_at_call 134; refine (cut_any (unhide HPL) (by have := unhide HLL; rw [unhide HP]; omega) n (by rw [unhide HP]; exact unhide HNL)).mono ?_; rintro e w4 ⟨rfl, hu⟩; have HU := hide ((unhide HUP) _ _ hu); clear hu))
        go_ret
        have e0 : popToI ks L name = some n := (unhide HR).trans (unhide HRC)
        have hu := unhide HU
        rw [unhide HP] at hu
        exact ⟨by rw [e0]; rfl, by rw [(unhide HFIN) n e0]; exact hu⟩
      | false =>
        rw [hwx] at HRC HN
        go_wp2_with (first | (go_at_call 72; refine (unhide HA).mono ?_; rintro e w1 ⟨rfl, rfl⟩) | (go_at_call 144; refine (unhide HLK).mono ?_; rintro e w2 ⟨rfl, hb⟩; have HB2 := hide ((unhide HB).trans (hb.mono (unhide HB).size)); clear hb) | (go_at_call 140; refine ((unhide HN) _).mono ?_; rintro e w3 ⟨rfl, hb⟩; have HB3 := hide (((unhide HB2).alloc (unhide HB2).size (.cells #[.int .i64 cs', .string cn'] 194)).trans (hb.mono ((unhide HB2).alloc (unhide HB2).size (.cells #[.int .i64 cs', .string cn'] 194)).size)); clear hb))
        go_roundg n
        case measure => omega
        case rel => exact ⟨by go_num, by omega, unhide HB3, (unhide HR).trans (unhide HRC)⟩

/-- How many stay, of the first n. -/
def leaveN (p : Int → Bool) (L : List Int) : Nat → Nat
  | 0 => 0
  | n + 1 => match L[n]? with
    | some x => if p x then leaveN p L n else n + 1
    | none => n + 1
theorem leaveN_le (p : Int → Bool) (L : List Int) : ∀ n, leaveN p L n ≤ n
  | 0 => Nat.le_refl _
  | n + 1 => by
    rw [leaveN]
    have := leaveN_le p L n
    split
    · split <;> omega
    · omega

set_option maxHeartbeats 4000000 in
theorem leave_any (K : Nat) (cs : Array Value) (eg : ∀ args w, (callFunc K args).run Try.prog w = .ok (.enter K args) w) (goes : Int → Bool) (ha : ArK w base bA ks FA) (hs : StkS w base bK bA L F) (hd : ∀ k, FA k → ¬ F k) (hg : Good ks L)
    (hw : ∀ id, id ∈ L → ∀ w1, Mod F w w1 → Calls Try.prog K (#[.agg #[.int .i64 (calOf ks id).space, .string (calOf ks id).name]] ++ cs) w1 fun e w' => e = .returned (.bool (goes id)) ∧ Below w1.heap.size w1 w') :
    Calls Try.prog 145 #[.pointer (some ⟨bK, 0, none⟩), .func (.func K) #[] cs] w fun e w' =>
      e = .returned (.int .i64 ((L.length : Int) - (leaveN goes L L.length : Int))) ∧ UpdS F w w' base bK bA (L.take (leaveN goes L L.length)) := by
  have hl := (Live.mk' ha hs).few hg
  have HW := hide hw
  have HA := hide ha
  have HS := hide hs
  have HD := hide hd
  have HG := hide hg
  have hlz : (L.length : Int) ≤ 32768 := by omega
  have HLL := hide hl
  clear ha hs hd hg hw hl
  go_enter Try.func145, Try.ntmps145
  go_wp2
  go_loopg [5, 6, 7] L.length (fun g s5 _ _ wr => s5 = .int .i64 ((L.length : Int) - (g : Int)) ∧ g ≤ L.length ∧ UpdS F w wr base bK bA (L.take g) ∧ leaveN goes L L.length = leaveN goes L g)
  case atStart => exact ⟨by simp, Nat.le_refl _, by rw [List.take_length]; exact (unhide HS).upd (Below.refl _ _), rfl⟩
  case round =>
    obtain ⟨rfl, hgl, hu, hrec⟩ := hrel
    have HU := hide hu
    have HR := hide hrec
    obtain ⟨F', hst, hmod, hfoot⟩ := hu
    have har := (unhide HA).mod hmod (unhide HD)
    have hlen : (L.take gk).length = gk := by simp; omega
    have HLN : Hid (Calls Try.prog 74 #[.pointer (some ⟨bK, 0, none⟩)] wr fun e w' => e = .returned (.int .i64 (gk : Int)) ∧ wr = w') := hide (by
      have := slen_any hst
      rw [hlen] at this
      exact this)
    clear hrec
    cases gk with
    | zero =>
      clear hst hmod hfoot har hlen
      go_wp2_with (go_at_call 74; refine (unhide HLN).mono ?_; rintro e w1 ⟨rfl, rfl⟩)
      go_ret
      have e0 : leaveN goes L L.length = 0 := unhide HR
      rw [e0]
      exact ⟨by simp, unhide HU⟩
    | succ n =>
      obtain ⟨x, hx⟩ : ∃ x, L[n]? = some x := ⟨_, List.getElem?_eq_getElem (by omega)⟩
      have hxm : x ∈ L := List.mem_of_getElem? hx
      have hx2 : (L.take (n + 1))[n]? = some x := by rw [List.getElem?_take, if_pos (by omega)]; exact hx
      have hg2 : Good ks (L.take (n + 1)) := (unhide HG).sub (List.take_sublist _ _)
      have htop : topM (L.take (n + 1)) = x := by
        unfold topM
        rw [hlen]
        have := atM_in hx2
        rw [show (((n + 1 : Nat) : Int) - 1) = (n : Int) by omega]
        exact this
      have HT : Hid (Calls Try.prog 75 #[.pointer (some ⟨bK, 0, none⟩)] wr fun e w' => e = .returned (.int .i64 x) ∧ wr = w') := hide (by
        have := stop_any hst (by rw [hlen]; omega)
        rw [htop] at this
        exact this)
      have HLK : Hid (Calls Try.prog 144 #[.pointer (some ⟨bK, 0, none⟩), .int .i64 x] wr fun e w' => e = .returned (.tuple #[.agg #[.int .i64 (calOf ks x).space, .string (calOf ks x).name], .bool (elOf ks x).isSome]) ∧ Below wr.heap.size wr w') := hide (look_any (Live.mk' har hst) x)
      have HWX := hide ((unhide HW) x hxm)
      have HPOP : Hid (∀ w1, Below wr.heap.size wr w1 → Calls Try.prog 50 #[.pointer (some ⟨bK, 0, none⟩)] w1 fun e w' => e = .returned (.int .i64 x) ∧ UpdS F w w' base bK bA (L.take n)) := hide (fun w1 hb => by
        refine (spop_any (hst.below hb) hg2 (by rw [hlen]; omega)).mono ?_
        rintro e w' ⟨rfl, hu2⟩
        have e2 : popL (L.take (n + 1)) = L.take n := by
          unfold popL
          rw [hlen, List.take_take]
          congr 1
          omega
        rw [e2] at hu2
        refine ⟨by rw [htop], ?_⟩
        obtain ⟨F2, g1, g2, g3⟩ := hu2
        refine ⟨F2, g1, (hmod.trans (Mod.of_below hb)).then g2 hfoot, fun k hk => ?_⟩
        rcases g3 k hk with e | e
        · exact hfoot k e
        · exact .inr (Nat.le_trans hmod.size (Nat.le_trans hb.size e)))
      have HRC : Hid (leaveN goes L (n + 1) = if goes x then leaveN goes L n else n + 1) := hide (by rw [leaveN, hx])
      have HM := hide hmod
      generalize (elOf ks x).isSome = ok at *
      generalize hcal : calOf ks x = c at *
      obtain ⟨cs', cn'⟩ := c
      simp only at HLK HWX
      have hn0 : (0 : Int) < ((n + 1 : Nat) : Int) := by omega
      have hnz : (n : Int) + 1 ≤ 32768 := by omega
      have hnl : ((n + 1 : Nat) : Int) ≤ (L.length : Int) := by omega
      clear hst hmod hfoot har hlen hx hxm hx2 hg2 htop hcal
      go_wp2_with (first | (go_at_call 74; refine (unhide HLN).mono ?_; rintro e w1 ⟨rfl, rfl⟩) | (go_at_call 75; refine (unhide HT).mono ?_; rintro e w1 ⟨rfl, rfl⟩) | (go_at_call 144; refine (unhide HLK).mono ?_; rintro e w2 ⟨rfl, hb⟩; have HB2 := hide (hb.alloc hb.size (.cells #[.int .i64 cs', .string cn'] 194)); clear hb))
      refine ((unhide HWX) _ ((unhide HM).trans (Mod.of_below (unhide HB2)))).mono ?_
      rintro e w3 ⟨rfl, hb3⟩
      have HB3 := hide ((unhide HB2).trans (hb3.mono (unhide HB2).size))
      clear hb3
      cases hwx : goes x with
      | true =>
        rw [hwx] at HRC
        go_wp2_with (go_at_call 50; refine ((unhide HPOP) _ (unhide HB3)).mono ?_; rintro e w4 ⟨rfl, hu⟩; have HU4 := hide hu; clear hu)
        go_roundg n
        case measure => omega
        case rel => exact ⟨by go_num, by omega, unhide HU4, (unhide HR).trans (unhide HRC)⟩
      | false =>
        rw [hwx] at HRC
        go_wp2
        go_ret
        have e0 : leaveN goes L L.length = n + 1 := (unhide HR).trans (unhide HRC)
        rw [e0]
        exact ⟨by simp, (unhide HU).then (unhide HB3)⟩

def impM (c : Cal) (but : ByteArray) : Bool := amongM c 0 impT && !namedM c but
def thorM (c : Cal) : Bool := amongM c 0 impT || amongM c 0 partT

set_option maxHeartbeats 1000000 in
theorem implied_1 (c : Cal) (n : ByteArray) (b : Nat) (w : World) (hc : w.cell? ⟨b, 0, none⟩ = some (.string n)) : Calls Try.prog 146 #[.agg #[.int .i64 c.space, .string c.name], .pointer (some ⟨b, 0, none⟩)] w fun e w' => e = .returned (.bool (impM c n)) ∧ Below w.heap.size w w' := by
  have hlt : b < w.heap.size := World.block_lt_of_cell? w _ hc
  have HN : Hid (∀ w1, Calls Try.prog 140 #[.agg #[.int .i64 c.space, .string c.name], .string n] w1 fun e w' => e = .returned (.bool (namedM c n)) ∧ Below w1.heap.size w1 w') := hide (fun w1 => isNamed_any c n w1)
  have HI : Hid (∀ w1, Calls Try.prog 147 #[.agg #[.int .i64 c.space, .string c.name]] w1 fun e w' => e = .returned (.bool (amongM c 0 impT)) ∧ Below w1.heap.size w1 w') := hide (fun w1 => isImplied_any c w1)
  unfold impM
  generalize namedM c n = r2 at *
  generalize amongM c 0 impT = r1 at *
  obtain ⟨cs, cn⟩ := c
  simp only at *
  have HC : Hid (∀ w1, Below (w.alloc (.cells #[.int .i64 cs, .string cn] 194)).heap.size (w.alloc (.cells #[.int .i64 cs, .string cn] 194)) w1 → w1.cell? ⟨b, 0, none⟩ = some (.string n)) := hide (fun w1 hb => by
    rw [(below_box hb).cell (p := ⟨b, 0, none⟩) hlt]
    exact hc)
  cases r1 with
  | true =>
    go_enter Try.func146, Try.ntmps146
    go_wp2_with (first | (go_at_call 147; refine ((unhide HI) _).mono ?_; rintro e w1 ⟨rfl, hb⟩; obtain ⟨y0, y1⟩ := box_after hb; have y2 := (unhide HC) w1 hb; have HB := hide (below_box hb); clear hb) | (go_at_call 140; refine ((unhide HN) _).mono ?_; rintro e w2 ⟨rfl, hb⟩; have HB2 := hide ((unhide HB).trans (hb.mono (unhide HB).size)); clear hb))
    go_ret
    exact ⟨rfl, unhide HB2⟩
  | false =>
    go_enter Try.func146, Try.ntmps146
    go_wp2_with (go_at_call 147; refine ((unhide HI) _).mono ?_; rintro e w1 ⟨rfl, hb⟩; have HB := hide (below_box hb); clear hb)
    go_ret
    exact ⟨rfl, unhide HB⟩

set_option maxHeartbeats 1000000 in
theorem thorough_1 (c : Cal) (w : World) : Calls Try.prog 148 #[.agg #[.int .i64 c.space, .string c.name]] w fun e w' => e = .returned (.bool (thorM c)) ∧ Below w.heap.size w w' := by
  have HN : Hid (∀ w1, Calls Try.prog 149 #[.agg #[.int .i64 c.space, .string c.name]] w1 fun e w' => e = .returned (.bool (amongM c 0 partT)) ∧ Below w1.heap.size w1 w') := hide (fun w1 => isTablePart_any c w1)
  have HI : Hid (∀ w1, Calls Try.prog 147 #[.agg #[.int .i64 c.space, .string c.name]] w1 fun e w' => e = .returned (.bool (amongM c 0 impT)) ∧ Below w1.heap.size w1 w') := hide (fun w1 => isImplied_any c w1)
  unfold thorM
  generalize amongM c 0 partT = r2 at *
  generalize amongM c 0 impT = r1 at *
  obtain ⟨cs, cn⟩ := c
  simp only at *
  cases r1 with
  | false =>
    go_enter Try.func148, Try.ntmps148
    go_wp2_with (first | (go_at_call 147; refine ((unhide HI) _).mono ?_; rintro e w1 ⟨rfl, hb⟩; obtain ⟨y0, y1⟩ := box_after hb; have HB := hide (below_box hb); clear hb) | (go_at_call 149; refine ((unhide HN) _).mono ?_; rintro e w2 ⟨rfl, hb⟩; have HB2 := hide ((unhide HB).trans (hb.mono (unhide HB).size)); clear hb))
    go_ret
    exact ⟨rfl, unhide HB2⟩
  | true =>
    go_enter Try.func148, Try.ntmps148
    go_wp2_with (go_at_call 147; refine ((unhide HI) _).mono ?_; rintro e w1 ⟨rfl, hb⟩; have HB := hide (below_box hb); clear hb)
    go_ret
    exact ⟨rfl, unhide HB⟩

theorem enters146 : ∀ args w, (callFunc 146 args).run Try.prog w = .ok (.enter 146 args) w := enters_of Try.func146 (by kernel_rfl) rfl
theorem enters148 : ∀ args w, (callFunc 148 args).run Try.prog w = .ok (.enter 148 args) w := enters_of Try.func148 (by kernel_rfl) rfl

/-- How many stay behind Implied, behind Thorough. -/
def impN (ks : List Key) (L : List Int) (but : ByteArray) : Nat := leaveN (fun id => impM (calOf ks id) but) L L.length
def thorN (ks : List Key) (L : List Int) : Nat := leaveN (fun id => thorM (calOf ks id)) L L.length

set_option maxHeartbeats 1000000 in
theorem implied_any (ha : ArK w base bA ks FA) (hs : StkS w base bK bA L F) (hd : ∀ k, FA k → ¬ F k) (hg : Good ks L) (but : ByteArray) :
    Calls Try.prog 64 #[.pointer (some ⟨bK, 0, none⟩), .string but] w fun e w' => e = .returned (.int .i64 ((L.length : Int) - (impN ks L but : Int))) ∧ UpdS F w w' base bK bA (L.take (impN ks L but)) := by
  have hbn := below_new w (.cells #[.string but] 9)
  have HC : Hid (Calls Try.prog 145 #[.pointer (some ⟨bK, 0, none⟩), .func (.func 146) #[] #[.pointer (some ⟨w.heap.size, 0, none⟩)]] (w.alloc (.cells #[.string but] 9)) fun e w' => e = .returned (.int .i64 ((L.length : Int) - (impN ks L but : Int))) ∧ UpdS F w w' base bK bA (L.take (impN ks L but))) := hide (by
    refine (leave_any 146 _ enters146 (fun id => impM (calOf ks id) but) (ha.below hbn) (hs.below hbn) hd hg (fun id _ w1 hm => ?_)).mono ?_
    · refine implied_1 (calOf ks id) but w.heap.size w1 (cell_of_one ((hm.block w.heap.size (by simp) (fun hF => ?_)).trans (heap_alloc_new w _)))
      have := (hs.lt hF).2
      omega
    · rintro e w' ⟨rfl, hu⟩
      exact ⟨rfl, UpdS.after hbn hu⟩)
  generalize impN ks L but = m at *
  clear ha hs hd hg hbn
  go_enter Try.func64, Try.ntmps64
  go_wp2_with (go_at_call 145; refine (unhide HC).mono ?_; rintro e w1 ⟨rfl, hu⟩; have HU := hide hu; clear hu)
  go_ret
  exact ⟨rfl, unhide HU⟩

set_option maxHeartbeats 1000000 in
theorem thorough_any (ha : ArK w base bA ks FA) (hs : StkS w base bK bA L F) (hd : ∀ k, FA k → ¬ F k) (hg : Good ks L) :
    Calls Try.prog 66 #[.pointer (some ⟨bK, 0, none⟩)] w fun e w' => e = .returned (.int .i64 ((L.length : Int) - (thorN ks L : Int))) ∧ UpdS F w w' base bK bA (L.take (thorN ks L)) := by
  have HC : Hid (Calls Try.prog 145 #[.pointer (some ⟨bK, 0, none⟩), .func (.func 148) #[] #[]] w fun e w' => e = .returned (.int .i64 ((L.length : Int) - (thorN ks L : Int))) ∧ UpdS F w w' base bK bA (L.take (thorN ks L))) := hide (
    leave_any 148 #[] enters148 (fun id => thorM (calOf ks id)) ha hs hd hg (fun id _ w1 _ => thorough_1 (calOf ks id) w1))
  generalize thorN ks L = m at *
  clear ha hs hd hg
  go_enter Try.func66, Try.ntmps66
  go_wp2_with (go_at_call 145; refine (unhide HC).mono ?_; rintro e w1 ⟨rfl, hu⟩; have HU := hide hu; clear hu)
  go_ret
  exact ⟨rfl, unhide HU⟩
end
end Go.Proofs.Ytdabgeippkmgaaa
