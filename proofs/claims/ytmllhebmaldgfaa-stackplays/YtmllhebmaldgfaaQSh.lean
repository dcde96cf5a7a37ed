/-
  What is in a scope: reaches over any question, Scope, NodeScope; Special. Is an element of a name in a scope?
-/
import Derived.Test.YtmllhebmaldgfaaQSd
import Derived.Test.YtmllhebmaldgfaaNe
import Derived.Deep.LoopGhost
import Derived.Laws.EntriesVeiled
import Derived.Shelf.GgClosure.Gives
namespace Go.Proofs.Ytmllhebmaldgfaa
open Go.RowKit

/-- From the n-th on downwards: does what is wanted come ahead of every border? -/
def reachI (want bord : Int → Bool) (L : List Int) : Nat → Bool
  | 0 => false
  | n + 1 => match L[n]? with
    | some x => if want x then true else if bord x then false else reachI want bord L n
    | none => false

section
variable {w w1 : World} {base bK bA : Nat} {ks : List Key} {el : Int → Option Cal} {L : List Int} {F FA : Nat → Prop}

theorem UpdS.mod' (h : UpdS F w w1 base bK bA el L) : Mod F w w1 := by
  obtain ⟨F', _, hm, _⟩ := h
  exact hm
theorem known_bord (ks : List Key) (id : Int) (k : Nat) (hk : k < 5) : (#[.int .i64 (calOf ks id).space, .string (calOf ks id).name, .bool (borK ks id 0), .bool (borK ks id 1), .bool (borK ks id 2), .bool (borK ks id 3), .bool (borK ks id 4), .bool (elOf ks id).isSome] : Array Value)[2 + k]? = some (.bool (borK ks id (k : Int))) := by
  rcases k with _ | _ | _ | _ | _ | k
  · rfl
  · rfl
  · rfl
  · rfl
  · rfl
  · omega
theorem borK_in {ks : List Key} {L : List Int} (hg : Good ks L) {x : Int} (hx : x ∈ L) (j : Int) : borK ks x j = borderM (calOf ks x) j := by
  unfold borK
  rw [hg.el x hx]
  rfl
theorem known_after {w w1 : World} {cs : Array Value} {t : TypeId} (hb : Below (w.alloc (.cells cs t)).heap.size (w.alloc (.cells cs t)) w1) (k : Nat) : w1.cell? ⟨w.heap.size, k, none⟩ = cs[k]? :=
  cell_row _ _ k _ _ _ ((hb.block w.heap.size (by simp)).trans (heap_alloc_new w _))

set_option maxHeartbeats 4000000 in
theorem reaches_any (K : Nat) (cs : Array Value) (eg : ∀ args w, (callFunc K args).run Try.prog w = .ok (.enter K args) w) (want : Int → Bool) (ha : ArK w base bA ks FA) (hs : StkS w base bK bA (elOf ks) L F) (hd : ∀ k, FA k → ¬ F k) (hg : Good ks L)
    (hw : ∀ id, id ∈ L → ∀ w1, Mod F w w1 → Calls Try.prog K (#[.int .i64 id, knownV ks id] ++ cs) w1 fun e w' => e = .returned (.bool (want id)) ∧ Below w1.heap.size w1 w')
    (kind : Int) (h0 : 0 ≤ kind) (h4 : kind ≤ 4) :
    Calls Try.prog 65 #[.pointer (some ⟨bK, 0, none⟩), .int .i64 kind, .func (.func K) #[] cs] w fun e w' =>
      e = .returned (.bool (reachI want (fun id => borderM (calOf ks id) kind) L L.length)) ∧ UpdS F w w' base bK bA (elOf ks) L := by
  have hl := (Live.mk' ha hs).few hg
  have HAR := hide ha
  have HD := hide hd
  have HG := hide hg
  have HW := hide hw
  have HS0 := hide hs.self
  have HLN := hide (slen_any hs)
  have hlz : (L.length : Int) ≤ 32768 := by omega
  obtain ⟨kk, rfl⟩ : ∃ kk : Nat, kind = (kk : Int) := ⟨kind.toNat, by omega⟩
  have hk1 : ¬ (kk : Int) < 0 := by omega
  have hk2 : ¬ 4 < (kk : Int) := by omega
  have hk3 : (0 : Int) ≤ (kk : Int) := by omega
  have hk5 : (kk : Int) < 5 := by omega
  have HK := hide (show kk < 5 by omega)
  clear ha hs hd hg hw hl h0 h4
  go_enter Try.func65, Try.ntmps65
  go_wp2_with (go_at_call 22; refine (unhide HLN).mono ?_; rintro e w1 ⟨rfl, rfl⟩)
  go_loopg [7, 8, 9, 10] L.length (fun g s7 _ _ _ wr => s7 = .int .i64 ((g : Int) - 1) ∧ g ≤ L.length ∧ UpdS F w wr base bK bA (elOf ks) L ∧ reachI want (fun id => borderM (calOf ks id) (kk : Int)) L L.length = reachI want (fun id => borderM (calOf ks id) (kk : Int)) L g)
  case atStart => exact ⟨rfl, Nat.le_refl _, unhide HS0, rfl⟩
  case round =>
    obtain ⟨rfl, hgl, hb, hrec⟩ := hrel
    have HB := hide hb
    have HR := hide hrec
    clear hrec
    cases gk with
    | zero =>
      clear hb
      go_wp2
      go_ret
      exact ⟨by rw [unhide HR]; rfl, unhide HB⟩
    | succ n =>
      obtain ⟨x, hx⟩ : ∃ x, L[n]? = some x := ⟨_, List.getElem?_eq_getElem (by omega)⟩
      have hxm : x ∈ L := List.mem_of_getElem? hx
      have e1 : (((n + 1 : Nat) : Int) - 1) = (n : Int) := by omega
      rw [e1]
      have HA : Hid (Calls Try.prog 57 #[.pointer (some ⟨bK, 0, none⟩), .int .i64 (n : Int)] wr fun e w' => e = .returned (.int .i64 x) ∧ wr = w') := hide (by
        have := hb.at (n : Int)
        rw [atM_in hx] at this
        exact this)
      have HLK := hide (hb.look ((unhide HAR).mod hb.mod' (unhide HD)) x)
      have HWX := hide ((unhide HW) x hxm)
      have HRC : Hid (reachI want (fun id => borderM (calOf ks id) (kk : Int)) L (n + 1) = if want x then true else if borderM (calOf ks x) (kk : Int) then false else reachI want (fun id => borderM (calOf ks id) (kk : Int)) L n) := hide (by rw [reachI, hx])
      rw [← borK_in (unhide HG) hxm] at HRC
      have HKB := hide (known_bord ks x kk (unhide HK))
      unfold knownV at HLK HWX
      generalize borK ks x (kk : Int) = bd at *
      generalize borK ks x 0 = b0 at *
      generalize borK ks x 1 = b1 at *
      generalize borK ks x 2 = b2 at *
      generalize borK ks x 3 = b3 at *
      generalize borK ks x 4 = b4 at *
      generalize (elOf ks x).isSome = ok at *
      generalize hcal : calOf ks x = c at *
      obtain ⟨cs', cn'⟩ := c
      simp only at HLK HWX HKB
      have hn0 : (0 : Int) ≤ (n : Int) := by omega
      have hnz : (n : Int) ≤ 32768 := by omega
      clear hb hx hxm e1 hcal
      go_wp2_with (first | (go_at_call 57; refine (unhide HA).mono ?_; rintro e w1 ⟨rfl, rfl⟩) | (go_at_call 68; refine (unhide HLK).mono ?_; rintro e w2 ⟨rfl, hu⟩; have HB3 := hide (hu.then (below_new w2 (.cells #[.int .i64 cs', .string cn', .bool b0, .bool b1, .bool b2, .bool b3, .bool b4, .bool ok] 103))); clear hu))
      refine ((unhide HWX) _ (unhide HB3).mod').mono ?_
      rintro e w3 ⟨rfl, hb3⟩
      have y0 := (known_after hb3 (2 + kk)).trans (unhide HKB)
      have HB4 := hide ((unhide HB3).then hb3)
      clear hb3
      cases hwx : want x with
      | true =>
        rw [hwx] at HRC
        go_wp2
        go_ret
        exact ⟨by rw [unhide HR, unhide HRC]; rfl, unhide HB4⟩
      | false =>
        rw [hwx] at HRC
        cases bd with
        | true =>
          go_wp2
          go_ret
          exact ⟨by rw [unhide HR, unhide HRC]; rfl, unhide HB4⟩
        | false =>
          go_wp2
          go_roundg n
          case measure => omega
          case rel => exact ⟨by go_num, by omega, unhide HB4, (unhide HR).trans (unhide HRC)⟩
theorem node_1 (c : Cal) {b0 b1 b2 b3 b4 ok : Bool} (n id : Int) (b : Nat) (w : World) (hc : w.cell? ⟨b, 0, none⟩ = some (.int .i64 n)) : Calls Try.prog 105 #[.int .i64 id, .agg #[.int .i64 c.space, .string c.name, .bool b0, .bool b1, .bool b2, .bool b3, .bool b4, .bool ok], .pointer (some ⟨b, 0, none⟩)] w fun e w' => e = .returned (.bool (id == n)) ∧ Below w.heap.size w w' := by
  have hlt : b < w.heap.size := World.block_lt_of_cell? w _ hc
  obtain ⟨cs, cn⟩ := c
  simp only at *
  go_enter Try.func105, Try.ntmps105
  go_wp2
  go_ret
  exact ⟨rfl, below_new _ _⟩

/-- Is an element of that name in the scope? -/
def scopeM (ks : List Key) (L : List Int) (name : ByteArray) (kind : Int) : Bool := if kind < 0 ∨ 4 < kind then false else reachI (fun id => namedM (calOf ks id) name) (fun id => borderM (calOf ks id) kind) L L.length
def nodeScopeM (ks : List Key) (L : List Int) (id kind : Int) : Bool := if kind < 0 ∨ 4 < kind then false else reachI (fun x => x == id) (fun id => borderM (calOf ks id) kind) L L.length

theorem reaches_no (v : Value) (kind : Int) (hk : kind < 0 ∨ 4 < kind) (w : World) : Calls Try.prog 65 #[.pointer (some ⟨bK, 0, none⟩), .int .i64 kind, v] w fun e w' => e = .returned (.bool false) ∧ w = w' := by
  by_cases h : kind < 0
  · clear hk
    go_enter Try.func65, Try.ntmps65
    go_wp2
    go_ret
    exact ⟨rfl, rfl⟩
  · have h4 : 4 < kind := by omega
    clear hk
    go_enter Try.func65, Try.ntmps65
    go_wp2
    go_ret
    exact ⟨rfl, rfl⟩

theorem enters105 : ∀ args w, (callFunc 105 args).run Try.prog w = .ok (.enter 105 args) w := enters_of Try.func105 (by kernel_rfl) rfl
theorem cell_after {w w1 : World} {v : Value} {t : TypeId} (hb : Below (w.alloc (.cells #[v] t)).heap.size (w.alloc (.cells #[v] t)) w1) : w1.cell? ⟨w.heap.size, 0, none⟩ = some v :=
  cell_of_one ((hb.block w.heap.size (by simp)).trans (heap_alloc_new w _))

set_option maxHeartbeats 1000000 in
theorem nodeScope_any (ha : ArK w base bA ks FA) (hs : StkS w base bK bA (elOf ks) L F) (hd : ∀ k, FA k → ¬ F k) (hg : Good ks L) (id : Int) (kind : Int) : Calls Try.prog 48 #[.pointer (some ⟨bK, 0, none⟩), .int .i64 id, .int .i64 kind] w fun e w' => e = .returned (.bool (nodeScopeM ks L id kind)) ∧ UpdS F w w' base bK bA (elOf ks) L := by
  have HC : Hid (Calls Try.prog 65 #[.pointer (some ⟨bK, 0, none⟩), .int .i64 kind, .func (.func 105) #[] #[.pointer (some ⟨w.heap.size, 0, none⟩)]] (w.alloc (.cells #[.int .i64 id] 3)) fun e w' => e = .returned (.bool (nodeScopeM ks L id kind)) ∧ UpdS F w w' base bK bA (elOf ks) L) := hide (by
    unfold nodeScopeM
    by_cases hk : kind < 0 ∨ 4 < kind
    · rw [if_pos hk]
      exact (reaches_no _ kind hk _).mono fun e w' ⟨a, b⟩ => ⟨a, b ▸ hs.self.then (below_new _ _)⟩
    · rw [if_neg hk]
      refine (reaches_any 105 _ enters105 (fun x => x == id) (ha.below (below_new _ _)) (hs.below (below_new _ _)) hd hg (fun x _ w1 hm => ?_) kind (by omega) (by omega)).mono ?_
      · exact node_1 (calOf ks x) id x w.heap.size w1 (cell_of_one ((hm.block w.heap.size (by simp) (fun hF => by have := (hs.lt hF).2; omega)).trans (heap_alloc_new w _)))
      · rintro e w' ⟨rfl, hb⟩
        exact ⟨rfl, UpdS.after (below_new _ _) hb⟩)
  generalize nodeScopeM ks L id kind = r at *
  clear ha hs hd hg
  go_enter Try.func48, Try.ntmps48
  go_wp2_with (go_at_call 65; refine (unhide HC).mono ?_; rintro e w1 ⟨rfl, hb⟩)
  go_ret
  exact ⟨rfl, hb⟩

def specM (ks : List Key) (id : Int) : Bool := (elOf ks id).isSome && specialM (calOf ks id)
theorem sspecial_any (ha : ArK w base bA ks FA) (hs : StkS w base bK bA (elOf ks) L F) (id : Int) : Calls Try.prog 53 #[.pointer (some ⟨bK, 0, none⟩), .int .i64 id] w fun e w' => e = .returned (.bool (specM ks id)) ∧ UpdS F w w' base bK bA (elOf ks) L := by
  have HLK := hide (look_any ha hs id)
  have HS : Hid (∀ w1, Calls Try.prog 106 #[.agg #[.int .i64 (calOf ks id).space, .string (calOf ks id).name]] w1 fun e w' => e = .returned (.bool (specialM (calOf ks id))) ∧ Below w1.heap.size w1 w') := hide (fun w1 => isSpecial_any (calOf ks id) w1)
  unfold specM
  unfold knownV at HLK
  generalize borK ks id 0 = b0 at *
  generalize borK ks id 1 = b1 at *
  generalize borK ks id 2 = b2 at *
  generalize borK ks id 3 = b3 at *
  generalize borK ks id 4 = b4 at *
  generalize calOf ks id = c at *
  generalize (elOf ks id).isSome = ok at *
  generalize specialM c = r at *
  obtain ⟨cs, cn⟩ := c
  simp only at *
  clear ha hs
  cases ok with
  | true =>
    go_enter Try.func53, Try.ntmps53
    go_wp2_with (first | (go_at_call 68; refine (unhide HLK).mono ?_; rintro e w1 ⟨rfl, hb⟩; have HB1 := hide (hb.then (below_new w1 (.cells #[.int .i64 cs, .string cn, .bool b0, .bool b1, .bool b2, .bool b3, .bool b4, .bool true] 103))); clear hb) | (go_at_call 106; refine ((unhide HS) _).mono ?_; rintro e w2 ⟨rfl, hb⟩; have HB2 := hide ((unhide HB1).then hb); clear hb))
    go_ret
    exact ⟨rfl, unhide HB2⟩
  | false =>
    go_enter Try.func53, Try.ntmps53
    go_wp2_with (go_at_call 68; refine (unhide HLK).mono ?_; rintro e w1 ⟨rfl, hb⟩; have HB1 := hide (hb.then (below_new w1 (.cells #[.int .i64 cs, .string cn, .bool b0, .bool b1, .bool b2, .bool b3, .bool b4, .bool false] 103))); clear hb)
    go_ret
    exact ⟨rfl, unhide HB1⟩
end
end Go.Proofs.Ytmllhebmaldgfaa

namespace Go.Proofs.Ytmllhebmaldgfaa
open Go.RowKit

section
variable {w w1 : World} {base bK bA : Nat} {ks : List Key} {L : List Int} {F FA : Nat → Prop}
theorem named_1 (c : Cal) {b0 b1 b2 b3 b4 ok : Bool} (n : ByteArray) (id : Int) (b : Nat) (w : World) (hc : w.cell? ⟨b, 0, none⟩ = some (.string n)) : Calls Try.prog 66 #[.int .i64 id, .agg #[.int .i64 c.space, .string c.name, .bool b0, .bool b1, .bool b2, .bool b3, .bool b4, .bool ok], .pointer (some ⟨b, 0, none⟩)] w fun e w' => e = .returned (.bool (namedM c n)) ∧ Below w.heap.size w w' := by
  have hlt : b < w.heap.size := World.block_lt_of_cell? w _ hc
  have HN : Hid (∀ w1, Calls Try.prog 67 #[.agg #[.int .i64 c.space, .string c.name], .string n] w1 fun e w' => e = .returned (.bool (namedM c n)) ∧ Below w1.heap.size w1 w') := hide (fun w1 => isNamed_any c n w1)
  generalize namedM c n = r at *
  obtain ⟨cs, cn⟩ := c
  simp only at *
  go_enter Try.func66, Try.ntmps66
  go_wp2_with (go_at_call 67; refine ((unhide HN) _).mono ?_; rintro e w1 ⟨rfl, hb⟩; have HB := hide (below_box hb); clear hb)
  go_ret
  exact ⟨rfl, unhide HB⟩

theorem enters66 : ∀ args w, (callFunc 66 args).run Try.prog w = .ok (.enter 66 args) w := enters_of Try.func66 (by kernel_rfl) rfl
set_option maxHeartbeats 1000000 in
theorem scope_any (ha : ArK w base bA ks FA) (hs : StkS w base bK bA (elOf ks) L F) (hd : ∀ k, FA k → ¬ F k) (hg : Good ks L) (name : ByteArray) (kind : Int) : Calls Try.prog 20 #[.pointer (some ⟨bK, 0, none⟩), .string name, .int .i64 kind] w fun e w' => e = .returned (.bool (scopeM ks L name kind)) ∧ UpdS F w w' base bK bA (elOf ks) L := by
  have HC : Hid (Calls Try.prog 65 #[.pointer (some ⟨bK, 0, none⟩), .int .i64 kind, .func (.func 66) #[] #[.pointer (some ⟨w.heap.size, 0, none⟩)]] (w.alloc (.cells #[.string name] 9)) fun e w' => e = .returned (.bool (scopeM ks L name kind)) ∧ UpdS F w w' base bK bA (elOf ks) L) := hide (by
    unfold scopeM
    by_cases hk : kind < 0 ∨ 4 < kind
    · rw [if_pos hk]
      exact (reaches_no _ kind hk _).mono fun e w' ⟨a, b⟩ => ⟨a, b ▸ hs.self.then (below_new _ _)⟩
    · rw [if_neg hk]
      refine (reaches_any 66 _ enters66 (fun id => namedM (calOf ks id) name) (ha.below (below_new _ _)) (hs.below (below_new _ _)) hd hg (fun id _ w1 hm => ?_) kind (by omega) (by omega)).mono ?_
      · exact named_1 (calOf ks id) name id w.heap.size w1 (cell_of_one ((hm.block w.heap.size (by simp) (fun hF => by have := (hs.lt hF).2; omega)).trans (heap_alloc_new w _)))
      · rintro e w' ⟨rfl, hb⟩
        exact ⟨rfl, UpdS.after (below_new _ _) hb⟩)
  generalize scopeM ks L name kind = r at *
  clear ha hs hd hg
  go_enter Try.func20, Try.ntmps20
  go_wp2_with (go_at_call 65; refine (unhide HC).mono ?_; rintro e w1 ⟨rfl, hb⟩)
  go_ret
  exact ⟨rfl, hb⟩

end
end Go.Proofs.Ytmllhebmaldgfaa
