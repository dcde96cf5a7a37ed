/-
   
-/
import Derived.Test.YtmkdnmkckipnaaaGreatSBap
import Derived.Deep.LoopGhost
import Derived.Laws.EntriesVeiled
import Derived.Shelf.GgClosure.Gives
namespace Go.Proofs.YtmkdnmkckipnaaaGreat
open Go.RowKit

/-- From the n-th on downwards: does what is wanted come ahead of every border? -/
def reachI (want bord : Int → Bool) (L : List Int) : Nat → Bool
  | 0 => false
  | n + 1 => match L[n]? with
    | some x => if want x then true else if bord x then false else reachI want bord L n
    | none => false

section
variable {w : World} {base bK bA : Nat} {ks : List Key} {L : List Int} {F FA : Nat → Prop}

set_option maxHeartbeats 4000000 in
theorem reaches_any (K : Nat) (cs : Array Value) (eg : ∀ args w, (callFunc K args).run Tryz.prog w = .ok (.enter K args) w) (want : Int → Bool) (h : Live w base bK bA ks L) (hg : Good ks L)
    (hw : ∀ id, id ∈ L → ∀ w1, Below w.heap.size w w1 → Calls Tryz.prog K (#[.int .i64 id, .agg #[.int .i64 (calOf ks id).space, .string (calOf ks id).name]] ++ cs) w1 fun e w' => e = .returned (.bool (want id)) ∧ Below w1.heap.size w1 w')
    (kind : Int) (h0 : 0 ≤ kind) (h4 : kind ≤ 4) :
    Calls Tryz.prog 127 #[.pointer (some ⟨bK, 0, none⟩), .int .i64 kind, .func (.func K) #[] cs] w fun e w' =>
      e = .returned (.bool (reachI want (fun id => borderM (calOf ks id) kind) L L.length)) ∧ Below w.heap.size w w' := by
  have hl := h.few hg
  have HLV := hide h
  have HW := hide hw
  have HLN := hide (slen_any h.st.choose_spec)
  have hlz : (L.length : Int) ≤ 32768 := by omega
  have hk1 : ¬ kind < 0 := by omega
  have hk2 : ¬ 4 < kind := by omega
  have HK := hide (show 0 ≤ kind ∧ kind ≤ 4 from ⟨h0, h4⟩)
  clear h hg hw hl h0 h4
  go_enter Tryz.func127, Tryz.ntmps127
  go_wp2_with (go_at_call 13; refine (unhide HLN).mono ?_; rintro e w1 ⟨rfl, rfl⟩)
  go_loopg [7, 8, 9, 10] L.length (fun g s7 _ _ _ wr => s7 = .int .i64 ((g : Int) - 1) ∧ g ≤ L.length ∧ Below w.heap.size w wr ∧ reachI want (fun id => borderM (calOf ks id) kind) L L.length = reachI want (fun id => borderM (calOf ks id) kind) L g)
  case atStart => exact ⟨rfl, Nat.le_refl _, Below.refl _ _, rfl⟩
  case round =>
    obtain ⟨rfl, hgl, hb, hrec⟩ := hrel
    have HB := hide hb
    have HR := hide hrec
    clear hrec
    cases gk with
    | zero =>
      clear hb
      go_wp2
      go_ret
      exact ⟨by rw [unhide HR]; rfl, unhide HB⟩
    | succ n =>
      obtain ⟨x, hx⟩ : ∃ x, L[n]? = some x := ⟨_, List.getElem?_eq_getElem (by omega)⟩
      have hxm : x ∈ L := List.mem_of_getElem? hx
      have e1 : (((n + 1 : Nat) : Int) - 1) = (n : Int) := by omega
      rw [e1]
      have HA : Hid (Calls Tryz.prog 15 #[.pointer (some ⟨bK, 0, none⟩), .int .i64 (n : Int)] wr fun e w' => e = .returned (.int .i64 x) ∧ wr = w') := hide (by
        have := sat_any (((unhide HLV).below hb).st.choose_spec) (n : Int)
        rw [atM_in hx] at this
        exact this)
      have HLK : Hid (Calls Tryz.prog 144 #[.pointer (some ⟨bK, 0, none⟩), .int .i64 x] wr fun e w' => e = .returned (.tuple #[.agg #[.int .i64 (calOf ks x).space, .string (calOf ks x).name], .bool (elOf ks x).isSome]) ∧ Below wr.heap.size wr w') := hide (look_any ((unhide HLV).below hb) x)
      have HWX := hide ((unhide HW) x hxm)
      have HBD : Hid (∀ w1, Calls Tryz.prog 156 #[.agg #[.int .i64 (calOf ks x).space, .string (calOf ks x).name], .int .i64 kind] w1 fun e w' => e = .returned (.bool (borderM (calOf ks x) kind)) ∧ Below w1.heap.size w1 w') := hide (fun w1 => isBorder_any (calOf ks x) kind (unhide HK).1 (unhide HK).2 w1)
      have HRC : Hid (reachI want (fun id => borderM (calOf ks id) kind) L (n + 1) = if want x then true else if borderM (calOf ks x) kind then false else reachI want (fun id => borderM (calOf ks id) kind) L n) := hide (by rw [reachI, hx])
      generalize (elOf ks x).isSome = ok at *
      generalize hcal : calOf ks x = c at *
      obtain ⟨cs', cn'⟩ := c
      simp only at HLK HWX HBD HRC
      have hn0 : (0 : Int) ≤ (n : Int) := by omega
      have hnz : (n : Int) ≤ 32768 := by omega
      clear hb hx hxm e1 hcal
      go_wp2_with (first | (go_at_call 15; refine (unhide HA).mono ?_; rintro e w1 ⟨rfl, rfl⟩) | (go_at_call 144; refine (unhide HLK).mono ?_; rintro e w2 ⟨rfl, hb⟩; have HB2 := hide ((unhide HB).trans (hb.mono (unhide HB).size)); clear hb))
      have HB3 : Hid (Below w.heap.size w (w2.alloc (.cells #[.int .i64 cs', .string cn'] 183))) := hide ((unhide HB2).alloc (unhide HB2).size _)
      refine ((unhide HWX) _ (unhide HB3)).mono ?_
      rintro e w3 ⟨rfl, hb3⟩
      obtain ⟨y0, y1⟩ := box_after hb3
      have HB4 := hide ((unhide HB3).trans (hb3.mono (unhide HB3).size))
      clear hb3
      cases hwx : want x with
      | true =>
        rw [hwx] at HRC
        go_wp2
        go_ret
        exact ⟨by rw [unhide HR, unhide HRC]; rfl, unhide HB4⟩
      | false =>
        rw [hwx] at HRC
        cases hbd : borderM ⟨cs', cn'⟩ kind with
        | true =>
          rw [hbd] at HRC HBD
          go_wp2_with (go_at_call 156; refine ((unhide HBD) _).mono ?_; rintro e w5 ⟨rfl, hb⟩; have HB5 := hide ((unhide HB4).trans (hb.mono (unhide HB4).size)); clear hb)
          go_ret
          exact ⟨by rw [unhide HR, unhide HRC]; rfl, unhide HB5⟩
        | false =>
          rw [hbd] at HRC HBD
          go_wp2_with (go_at_call 156; refine ((unhide HBD) _).mono ?_; rintro e w5 ⟨rfl, hb⟩; have HB5 := hide ((unhide HB4).trans (hb.mono (unhide HB4).size)); clear hb)
          go_roundg n
          case measure => omega
          case rel => exact ⟨by go_num, by omega, unhide HB5, (unhide HR).trans (unhide HRC)⟩

theorem node_1 (c : Cal) (n id : Int) (b : Nat) (w : World) (hc : w.cell? ⟨b, 0, none⟩ = some (.int .i64 n)) : Calls Tryz.prog 128 #[.int .i64 id, .agg #[.int .i64 c.space, .string c.name], .pointer (some ⟨b, 0, none⟩)] w fun e w' => e = .returned (.bool (id == n)) ∧ Below w.heap.size w w' := by
  have hlt : b < w.heap.size := World.block_lt_of_cell? w _ hc
  obtain ⟨cs, cn⟩ := c
  simp only at *
  go_enter Tryz.func128, Tryz.ntmps128
  go_wp2
  go_ret
  exact ⟨rfl, below_new _ _⟩

/-- Is an element of that name in the scope? -/
def scopeM (ks : List Key) (L : List Int) (name : ByteArray) (kind : Int) : Bool := if kind < 0 ∨ 4 < kind then false else reachI (fun id => namedM (calOf ks id) name) (fun id => borderM (calOf ks id) kind) L L.length
def nodeScopeM (ks : List Key) (L : List Int) (id kind : Int) : Bool := if kind < 0 ∨ 4 < kind then false else reachI (fun x => x == id) (fun id => borderM (calOf ks id) kind) L L.length

theorem reaches_no (v : Value) (kind : Int) (hk : kind < 0 ∨ 4 < kind) (w : World) : Calls Tryz.prog 127 #[.pointer (some ⟨bK, 0, none⟩), .int .i64 kind, v] w fun e w' => e = .returned (.bool false) ∧ w = w' := by
  by_cases h : kind < 0
  · clear hk
    go_enter Tryz.func127, Tryz.ntmps127
    go_wp2
    go_ret
    exact ⟨rfl, rfl⟩
  · have h4 : 4 < kind := by omega
    clear hk
    go_enter Tryz.func127, Tryz.ntmps127
    go_wp2
    go_ret
    exact ⟨rfl, rfl⟩

theorem enters128 : ∀ args w, (callFunc 128 args).run Tryz.prog w = .ok (.enter 128 args) w := enters_of Tryz.func128 (by kernel_rfl) rfl

theorem cell_after {w w1 : World} {v : Value} {t : TypeId} (hb : Below (w.alloc (.cells #[v] t)).heap.size (w.alloc (.cells #[v] t)) w1) : w1.cell? ⟨w.heap.size, 0, none⟩ = some v :=
  cell_of_one ((hb.block w.heap.size (by simp)).trans (heap_alloc_new w _))

set_option maxHeartbeats 1000000 in
theorem nodeScope_any (h : Live w base bK bA ks L) (hg : Good ks L) (id : Int) (kind : Int) : Calls Tryz.prog 91 #[.pointer (some ⟨bK, 0, none⟩), .int .i64 id, .int .i64 kind] w fun e w' => e = .returned (.bool (nodeScopeM ks L id kind)) ∧ Below w.heap.size w w' := by
  have HC : Hid (Calls Tryz.prog 127 #[.pointer (some ⟨bK, 0, none⟩), .int .i64 kind, .func (.func 128) #[] #[.pointer (some ⟨w.heap.size, 0, none⟩)]] (w.alloc (.cells #[.int .i64 id] 3)) fun e w' => e = .returned (.bool (nodeScopeM ks L id kind)) ∧ Below w.heap.size w w') := hide (by
    unfold nodeScopeM
    by_cases hk : kind < 0 ∨ 4 < kind
    · rw [if_pos hk]
      exact (reaches_no _ kind hk _).mono fun e w' ⟨a, b⟩ => ⟨a, b ▸ below_new _ _⟩
    · rw [if_neg hk]
      refine (reaches_any 128 _ enters128 (fun x => x == id) (h.below (below_new _ _)) hg (fun x _ w1 hb => ?_) kind (by omega) (by omega)).mono ?_
      · exact node_1 (calOf ks x) id x w.heap.size w1 (cell_after hb)
      · rintro e w' ⟨rfl, hb⟩
        exact ⟨rfl, below_box hb⟩)
  generalize nodeScopeM ks L id kind = r at *
  clear h hg
  go_enter Tryz.func91, Tryz.ntmps91
  go_wp2_with (go_at_call 127; refine (unhide HC).mono ?_; rintro e w1 ⟨rfl, hb⟩)
  go_ret
  exact ⟨rfl, hb⟩

def specM (ks : List Key) (id : Int) : Bool := (elOf ks id).isSome && specialM (calOf ks id)
theorem sspecial_any (h : Live w base bK bA ks L) (id : Int) : Calls Tryz.prog 129 #[.pointer (some ⟨bK, 0, none⟩), .int .i64 id] w fun e w' => e = .returned (.bool (specM ks id)) ∧ Below w.heap.size w w' := by
  have HLK : Hid (Calls Tryz.prog 144 #[.pointer (some ⟨bK, 0, none⟩), .int .i64 id] w fun e w' => e = .returned (.tuple #[.agg #[.int .i64 (calOf ks id).space, .string (calOf ks id).name], .bool (elOf ks id).isSome]) ∧ Below w.heap.size w w') := hide (look_any h id)
  have HS : Hid (∀ w1, Calls Tryz.prog 157 #[.agg #[.int .i64 (calOf ks id).space, .string (calOf ks id).name]] w1 fun e w' => e = .returned (.bool (specialM (calOf ks id))) ∧ Below w1.heap.size w1 w') := hide (fun w1 => isSpecial_any (calOf ks id) w1)
  unfold specM
  generalize calOf ks id = c at *
  generalize (elOf ks id).isSome = ok at *
  generalize specialM c = r at *
  obtain ⟨cs, cn⟩ := c
  simp only at *
  clear h
  cases ok with
  | true =>
    go_enter Tryz.func129, Tryz.ntmps129
    go_wp2_with (first | (go_at_call 144; refine (unhide HLK).mono ?_; rintro e w1 ⟨rfl, hb⟩; have HB1 := hide (hb.alloc hb.size (.cells #[.int .i64 cs, .string cn] 183)); clear hb) | (go_at_call 157; refine ((unhide HS) _).mono ?_; rintro e w2 ⟨rfl, hb⟩; have HB2 := hide ((unhide HB1).trans (hb.mono (unhide HB1).size)); clear hb))
    go_ret
    exact ⟨rfl, unhide HB2⟩
  | false =>
    go_enter Tryz.func129, Tryz.ntmps129
    go_wp2_with (go_at_call 144; refine (unhide HLK).mono ?_; rintro e w1 ⟨rfl, hb⟩; have HB1 := hide (hb.alloc hb.size (.cells #[.int .i64 cs, .string cn] 183)); clear hb)
    go_ret
    exact ⟨rfl, unhide HB1⟩
end
end Go.Proofs.YtmkdnmkckipnaaaGreat

namespace Go.Proofs.YtmkdnmkckipnaaaGreat
open Go.RowKit

/-- The last place under n at which p holds. -/
def lastI (p : Int → Bool) (L : List Int) : Nat → Option Nat
  | 0 => none
  | n + 1 => match L[n]? with
    | some x => if p x then some n else lastI p L n
    | none => none
theorem lastI_lt {p : Int → Bool} {L : List Int} : ∀ {n i : Nat}, lastI p L n = some i → i < n ∧ ∃ x, L[i]? = some x ∧ p x = true
  | 0, i, h => by simp [lastI] at h
  | n + 1, i, h => by
    rw [lastI] at h
    cases hx : L[n]? with
    | none => rw [hx] at h; cases h
    | some x =>
      rw [hx] at h
      simp only at h
      split at h
      · cases h
        exact ⟨by omega, x, hx, by assumption⟩
      · obtain ⟨h1, h2⟩ := lastI_lt h
        exact ⟨by omega, h2⟩

def popToI (ks : List Key) (L : List Int) (name : ByteArray) : Option Nat := lastI (fun id => namedM (calOf ks id) name) L L.length
def popToL (ks : List Key) (L : List Int) (name : ByteArray) : List Int := match popToI ks L name with
  | some i => L.take i
  | none => L

section
variable {w : World} {base bK bA : Nat} {ks : List Key} {L : List Int} {F FA : Nat → Prop}

/-- How many stay, of the first n. -/
def leaveN (p : Int → Bool) (L : List Int) : Nat → Nat
  | 0 => 0
  | n + 1 => match L[n]? with
    | some x => if p x then leaveN p L n else n + 1
    | none => n + 1
theorem leaveN_le (p : Int → Bool) (L : List Int) : ∀ n, leaveN p L n ≤ n
  | 0 => Nat.le_refl _
  | n + 1 => by
    rw [leaveN]
    have := leaveN_le p L n
    split
    · split <;> omega
    · omega

def impM (c : Cal) (but : ByteArray) : Bool := amongM c 0 impT && !namedM c but
def thorM (c : Cal) : Bool := amongM c 0 impT || amongM c 0 partT

/-- How many stay behind Implied, behind Thorough. -/
def impN (ks : List Key) (L : List Int) (but : ByteArray) : Nat := leaveN (fun id => impM (calOf ks id) but) L L.length
def thorN (ks : List Key) (L : List Int) : Nat := leaveN (fun id => thorM (calOf ks id)) L L.length

end
end Go.Proofs.YtmkdnmkckipnaaaGreat
