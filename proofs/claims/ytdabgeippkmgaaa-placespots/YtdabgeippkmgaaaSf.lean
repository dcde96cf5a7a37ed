import Derived.Test.YtdabgeippkmgaaaSe
import Derived.Test.YtdabgeippkmgaaaNe
import Derived.Deep.LoopGhost
import Derived.Laws.EntriesVeiled
import Derived.Shelf.GgClosure.Gives
/-
  What is in a scope: reaches over any question, Scope, NodeScope; Special.
-/
namespace Go.Proofs.Ytdabgeippkmgaaa
open Go.RowKit

/-- From the n-th on downwards: does what is wanted come ahead of every border? -/
def reachI (want bord : Int → Bool) (L : List Int) : Nat → Bool
  | 0 => false
  | n + 1 => match L[n]? with
    | some x => if want x then true else if bord x then false else reachI want bord L n
    | none => false

section
variable {w : World} {base bK bA : Nat} {ks : List Key} {L : List Int} {F FA : Nat → Prop}

set_option maxHeartbeats 4000000 in
theorem reaches_any (K : Nat) (cs : Array Value) (eg : ∀ args w, (callFunc K args).run Try.prog w = .ok (.enter K args) w) (want : Int → Bool) (h : Live w base bK bA ks L) (hg : Good ks L)
    (hw : ∀ id, id ∈ L → ∀ w1, Below w.heap.size w w1 → Calls Try.prog K (#[.int .i64 id, .agg #[.int .i64 (calOf ks id).space, .string (calOf ks id).name]] ++ cs) w1 fun e w' => e = .returned (.bool (want id)) ∧ Below w1.heap.size w1 w')
    (kind : Int) (h0 : 0 ≤ kind) (h4 : kind ≤ 4) :
    Calls Try.prog 138 #[.pointer (some ⟨bK, 0, none⟩), .int .i64 kind, .func (.func K) #[] cs] w fun e w' =>
      e = .returned (.bool (reachI want (fun id => borderM (calOf ks id) kind) L L.length)) ∧ Below w.heap.size w w' := by
  have hl := h.few hg
  have HLV := hide h
  have HW := hide hw
  have HLN := hide (slen_any h.st.choose_spec)
  have hlz : (L.length : Int) ≤ 32768 := by omega
  have hk1 : ¬ kind < 0 := by omega
  have hk2 : ¬ 4 < kind := by omega
  have HK := hide (show 0 ≤ kind ∧ kind ≤ 4 from ⟨h0, h4⟩)
  clear h hg hw hl h0 h4
  go_enter Try.func138, Try.ntmps138
  go_wp2_with (go_at_call 74; refine (unhide HLN).mono ?_; rintro e w1 ⟨rfl, rfl⟩)
  go_loopg [7, 8, 9, 10] L.length (fun g s7 _ _ _ wr => s7 = .int .i64 ((g : Int) - 1) ∧ g ≤ L.length ∧ Below w.heap.size w wr ∧ reachI want (fun id => borderM (calOf ks id) kind) L L.length = reachI want (fun id => borderM (calOf ks id) kind) L g)
  case atStart => exact ⟨rfl, Nat.le_refl _, Below.refl _ _, rfl⟩
  case round =>
    obtain ⟨rfl, hgl, hb, hrec⟩ := hrel
    have HB := hide hb
    have HR := hide hrec
    clear hrec
    cases gk with
    | zero =>
      clear hb
      go_wp2
      go_ret
      exact ⟨by rw [unhide HR]; rfl, unhide HB⟩
    | succ n =>
      obtain ⟨x, hx⟩ : ∃ x, L[n]? = some x := ⟨_, List.getElem?_eq_getElem (by omega)⟩
      have hxm : x ∈ L := List.mem_of_getElem? hx
      have e1 : (((n + 1 : Nat) : Int) - 1) = (n : Int) := by omega
      rw [e1]
      have HA : Hid (Calls Try.prog 72 #[.pointer (some ⟨bK, 0, none⟩), .int .i64 (n : Int)] wr fun e w' => e = .returned (.int .i64 x) ∧ wr = w') := hide (by
        have := sat_any (((unhide HLV).below hb).st.choose_spec) (n : Int)
        rw [atM_in hx] at this
        exact this)
      have HLK : Hid (Calls Try.prog 144 #[.pointer (some ⟨bK, 0, none⟩), .int .i64 x] wr fun e w' => e = .returned (.tuple #[.agg #[.int .i64 (calOf ks x).space, .string (calOf ks x).name], .bool (elOf ks x).isSome]) ∧ Below wr.heap.size wr w') := hide (look_any ((unhide HLV).below hb) x)
      have HWX := hide ((unhide HW) x hxm)
      have HBD : Hid (∀ w1, Calls Try.prog 182 #[.agg #[.int .i64 (calOf ks x).space, .string (calOf ks x).name], .int .i64 kind] w1 fun e w' => e = .returned (.bool (borderM (calOf ks x) kind)) ∧ Below w1.heap.size w1 w') := hide (fun w1 => isBorder_any (calOf ks x) kind (unhide HK).1 (unhide HK).2 w1)
      have HRC : Hid (reachI want (fun id => borderM (calOf ks id) kind) L (n + 1) = if want x then true else if borderM (calOf ks x) kind then false else reachI want (fun id => borderM (calOf ks id) kind) L n) := hide (by rw [reachI, hx])
      generalize (elOf ks x).isSome = ok at *
      generalize hcal : calOf ks x = c at *
      obtain ⟨cs', cn'⟩ := c
      simp only at HLK HWX HBD HRC
      have hn0 : (0 : Int) ≤ (n : Int) := by omega
      have hnz : (n : Int) ≤ 32768 := by omega
      clear hb hx hxm e1 hcal
      go_wp2_with (first | (go_at_call 72; refine (unhide HA).mono ?_; rintro e w1 ⟨rfl, rfl⟩) | (go_at_call 144; refine (unhide HLK).mono ?_; rintro e w2 ⟨rfl, hb⟩; have HB2 := hide ((unhide HB).trans (hb.mono (unhide HB).size)); clear hb))
      have HB3 : Hid (Below w.heap.size w (w2.alloc (.cells #[.int .i64 cs', .string cn'] 194))) := hide ((unhide HB2).alloc (unhide HB2).size _)
      refine ((unhide HWX) _ (unhide HB3)).mono ?_
      rintro e w3 ⟨rfl, hb3⟩
      obtain ⟨y0, y1⟩ := box_after hb3
      have HB4 := hide ((unhide HB3).trans (hb3.mono (unhide HB3).size))
      clear hb3
      cases hwx : want x with
      | true =>
        rw [hwx] at HRC
        go_wp2
        go_ret
        exact ⟨by rw [unhide HR, unhide HRC]; rfl, unhide HB4⟩
      | false =>
        rw [hwx] at HRC
        cases hbd : borderM ⟨cs', cn'⟩ kind with
        | true =>
          rw [hbd] at HRC HBD
          go_wp2_with (go_at_call 182; refine ((unhide HBD) _).mono ?_; rintro e w5 ⟨rfl, hb⟩; have HB5 := hide ((unhide HB4).trans (hb.mono (unhide HB4).size)); clear hb)
          go_ret
          exact ⟨by rw [unhide HR, unhide HRC]; rfl, unhide HB5⟩
        | false =>
          rw [hbd] at HRC HBD
          go_wp2_with (go_at_call 182; refine ((unhide HBD) _).mono ?_; rintro e w5 ⟨rfl, hb⟩; have HB5 := hide ((unhide HB4).trans (hb.mono (unhide HB4).size)); clear hb)
          go_roundg n
          case measure => omega
          case rel => exact ⟨by go_num, by omega, unhide HB5, (unhide HR).trans (unhide HRC)⟩

theorem named_1 (c : Cal) (n : ByteArray) (id : Int) (b : Nat) (w : World) (hc : w.cell? ⟨b, 0, none⟩ = some (.string n)) : Calls Try.prog 139 #[.int .i64 id, .agg #[.int .i64 c.space, .string c.name], .pointer (some ⟨b, 0, none⟩)] w fun e w' => e = .returned (.bool (namedM c n)) ∧ Below w.heap.size w w' := by
  have hlt : b < w.heap.size := World.block_lt_of_cell? w _ hc
  have HN : Hid (∀ w1, Calls Try.prog 140 #[.agg #[.int .i64 c.space, .string c.name], .string n] w1 fun e w' => e = .returned (.bool (namedM c n)) ∧ Below w1.heap.size w1 w') := hide (fun w1 => isNamed_any c n w1)
  generalize namedM c n = r at *
  obtain ⟨cs, cn⟩ := c
  simp only at *
  go_enter Try.func139, Try.ntmps139
  go_wp2_with (go_at_call 140; refine ((unhide HN) _).mono ?_; rintro e w1 ⟨rfl, hb⟩; have HB := hide (below_box hb); clear hb)
  go_ret
  exact ⟨rfl, unhide HB⟩

theorem node_1 (c : Cal) (n id : Int) (b : Nat) (w : World) (hc : w.cell? ⟨b, 0, none⟩ = some (.int .i64 n)) : Calls Try.prog 143 #[.int .i64 id, .agg #[.int .i64 c.space, .string c.name], .pointer (some ⟨b, 0, none⟩)] w fun e w' => e = .returned (.bool (id == n)) ∧ Below w.heap.size w w' := by
  have hlt : b < w.heap.size := World.block_lt_of_cell? w _ hc
  obtain ⟨cs, cn⟩ := c
  simp only at *
  go_enter Try.func143, Try.ntmps143
  go_wp2
  go_ret
  exact ⟨rfl, below_new _ _⟩

/-- Is an element of that name in the scope? -/
def scopeM (ks : List Key) (L : List Int) (name : ByteArray) (kind : Int) : Bool := if kind < 0 ∨ 4 < kind then false else reachI (fun id => namedM (calOf ks id) name) (fun id => borderM (calOf ks id) kind) L L.length
def nodeScopeM (ks : List Key) (L : List Int) (id kind : Int) : Bool := if kind < 0 ∨ 4 < kind then false else reachI (fun x => x == id) (fun id => borderM (calOf ks id) kind) L L.length

theorem reaches_no (v : Value) (kind : Int) (hk : kind < 0 ∨ 4 < kind) (w : World) : Calls Try.prog 138 #[.pointer (some ⟨bK, 0, none⟩), .int .i64 kind, v] w fun e w' => e = .returned (.bool false) ∧ w = w' := by
  by_cases h : kind < 0
  · clear hk
    go_enter Try.func138, Try.ntmps138
    go_wp2
    go_ret
    exact ⟨rfl, rfl⟩
  · have h4 : 4 < kind := by omega
    clear hk
    go_enter Try.func138, Try.ntmps138
    go_wp2
    go_ret
    exact ⟨rfl, rfl⟩

theorem enters139 : ∀ args w, (callFunc 139 args).run Try.prog w = .ok (.enter 139 args) w := enters_of Try.func139 (by kernel_rfl) rfl
theorem enters143 : ∀ args w, (callFunc 143 args).run Try.prog w = .ok (.enter 143 args) w := enters_of Try.func143 (by kernel_rfl) rfl

theorem cell_after {w w1 : World} {v : Value} {t : TypeId} (hb : Below (w.alloc (.cells #[v] t)).heap.size (w.alloc (.cells #[v] t)) w1) : w1.cell? ⟨w.heap.size, 0, none⟩ = some v :=
  cell_of_one ((hb.block w.heap.size (by simp)).trans (heap_alloc_new w _))

set_option maxHeartbeats 1000000 in
theorem scope_any (h : Live w base bK bA ks L) (hg : Good ks L) (name : ByteArray) (kind : Int) : Calls Try.prog 58 #[.pointer (some ⟨bK, 0, none⟩), .string name, .int .i64 kind] w fun e w' => e = .returned (.bool (scopeM ks L name kind)) ∧ Below w.heap.size w w' := by
  have HC : Hid (Calls Try.prog 138 #[.pointer (some ⟨bK, 0, none⟩), .int .i64 kind, .func (.func 139) #[] #[.pointer (some ⟨w.heap.size, 0, none⟩)]] (w.alloc (.cells #[.string name] 9)) fun e w' => e = .returned (.bool (scopeM ks L name kind)) ∧ Below w.heap.size w w') := hide (by
    unfold scopeM
    by_cases hk : kind < 0 ∨ 4 < kind
    · rw [if_pos hk]
      exact (reaches_no _ kind hk _).mono fun e w' ⟨a, b⟩ => ⟨a, b ▸ below_new _ _⟩
    · rw [if_neg hk]
      refine (reaches_any 139 _ enters139 (fun id => namedM (calOf ks id) name) (h.below (below_new _ _)) hg (fun id _ w1 hb => ?_) kind (by omega) (by omega)).mono ?_
      · exact named_1 (calOf ks id) name id w.heap.size w1 (cell_after hb)
      · rintro e w' ⟨rfl, hb⟩
        exact ⟨rfl, below_box hb⟩)
  generalize scopeM ks L name kind = r at *
  clear h hg
  go_enter Try.func58, Try.ntmps58
  go_wp2_with (go_at_call 138; refine (unhide HC).mono ?_; rintro e w1 ⟨rfl, hb⟩)
  go_ret
  exact ⟨rfl, hb⟩

set_option maxHeartbeats 1000000 in
theorem nodeScope_any (h : Live w base bK bA ks L) (hg : Good ks L) (id : Int) (kind : Int) : Calls Try.prog 60 #[.pointer (some ⟨bK, 0, none⟩), .int .i64 id, .int .i64 kind] w fun e w' => e = .returned (.bool (nodeScopeM ks L id kind)) ∧ Below w.heap.size w w' := by
  have HC : Hid (Calls Try.prog 138 #[.pointer (some ⟨bK, 0, none⟩), .int .i64 kind, .func (.func 143) #[] #[.pointer (some ⟨w.heap.size, 0, none⟩)]] (w.alloc (.cells #[.int .i64 id] 3)) fun e w' => e = .returned (.bool (nodeScopeM ks L id kind)) ∧ Below w.heap.size w w') := hide (by
    unfold nodeScopeM
    by_cases hk : kind < 0 ∨ 4 < kind
    · rw [if_pos hk]
      exact (reaches_no _ kind hk _).mono fun e w' ⟨a, b⟩ => ⟨a, b ▸ below_new _ _⟩
    · rw [if_neg hk]
      refine (reaches_any 143 _ enters143 (fun x => x == id) (h.below (below_new _ _)) hg (fun x _ w1 hb => ?_) kind (by omega) (by omega)).mono ?_
      · exact node_1 (calOf ks x) id x w.heap.size w1 (cell_after hb)
      · rintro e w' ⟨rfl, hb⟩
        exact ⟨rfl, below_box hb⟩)
  generalize nodeScopeM ks L id kind = r at *
  clear h hg
  go_enter Try.func60, Try.ntmps60
  go_wp2_with (go_at_call 138; refine (unhide HC).mono ?_; rintro e w1 ⟨rfl, hb⟩)
  go_ret
  exact ⟨rfl, hb⟩

def specM (ks : List Key) (id : Int) : Bool := (elOf ks id).isSome && specialM (calOf ks id)
theorem sspecial_any (h : Live w base bK bA ks L) (id : Int) : Calls Try.prog 68 #[.pointer (some ⟨bK, 0, none⟩), .int .i64 id] w fun e w' => e = .returned (.bool (specM ks id)) ∧ Below w.heap.size w w' := by
  have HLK : Hid (Calls Try.prog 144 #[.pointer (some ⟨bK, 0, none⟩), .int .i64 id] w fun e w' => e = .returned (.tuple #[.agg #[.int .i64 (calOf ks id).space, .string (calOf ks id).name], .bool (elOf ks id).isSome]) ∧ Below w.heap.size w w') := hide (look_any h id)
  have HS : Hid (∀ w1, Calls Try.prog 150 #[.agg #[.int .i64 (calOf ks id).space, .string (calOf ks id).name]] w1 fun e w' => e = .returned (.bool (specialM (calOf ks id))) ∧ Below w1.heap.size w1 w') := hide (fun w1 => isSpecial_any (calOf ks id) w1)
  unfold specM
  generalize calOf ks id = c at *
  generalize (elOf ks id).isSome = ok at *
  generalize specialM c = r at *
  obtain ⟨cs, cn⟩ := c
  simp only at *
  clear h
  cases ok with
  | true =>
    go_enter Try.func68, Try.ntmps68
    go_wp2_with (first | (go_at_call 144; refine (unhide HLK).mono ?_; rintro e w1 ⟨rfl, hb⟩; have HB1 := hide (hb.alloc hb.size (.cells #[.int .i64 cs, .string cn] 194)); clear hb) | (go_at_call 150; refine ((unhide HS) _).mono ?_; rintro e w2 ⟨rfl, hb⟩; have HB2 := hide ((unhide HB1).trans (hb.mono (unhide HB1).size)); clear hb))
    go_ret
    exact ⟨rfl, unhide HB2⟩
  | false =>
    go_enter Try.func68, Try.ntmps68
    go_wp2_with (go_at_call 144; refine (unhide HLK).mono ?_; rintro e w1 ⟨rfl, hb⟩; have HB1 := hide (hb.alloc hb.size (.cells #[.int .i64 cs, .string cn] 194)); clear hb)
    go_ret
    exact ⟨rfl, unhide HB1⟩
end
end Go.Proofs.Ytdabgeippkmgaaa
