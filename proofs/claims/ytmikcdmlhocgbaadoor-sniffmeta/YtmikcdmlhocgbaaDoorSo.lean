/-
  Package sniff's claim: what the attributes of a meta tag say.
-/
import Derived.Test.YtmikcdmlhocgbaaDoorSf
import Derived.Test.YtmikcdmlhocgbaaDoorLb
namespace Go.Proofs.YtmikcdmlhocgbaaDoor
open Go.RowKit Go.Lib

structure ClaimS where
  enc : Int
  needs : Bool
  pragma : Bool
def Cl (w : World) (c : Nat) (s : ClaimS) : Prop := w.heap[c]? = some (.cells #[.int .i64 s.enc, .bool s.needs, .bool s.pragma] 79 (0, 0))

def encP (l : List UInt8) : Int := if (ofP (norm l)).isSome then ofE (norm l) else -2
def metaI (n : Int) : Int := if n = 1 ∨ n = 2 then 0 else if n = 6 then 3 else n
def toldM (s : ClaimS) : Int × Bool := if s.enc < 0 then (0, false) else if s.needs = true ∧ s.pragma = false then (0, false) else (metaI s.enc, true)
def hearC (s : ClaimS) (v : List UInt8) : ClaimS := if s.enc = -1 then (match contentM v with | none => s | some x => if encP x = -2 then s else { s with enc := encP x, needs := true }) else s
def httpL : List UInt8 := [104, 116, 116, 112, 45, 101, 113, 117, 105, 118]
def typeL : List UInt8 := [99, 111, 110, 116, 101, 110, 116, 45, 116, 121, 112, 101]
def contL : List UInt8 := [99, 111, 110, 116, 101, 110, 116]
def hearM (s : ClaimS) (x : List UInt8 × List UInt8) : ClaimS :=
  if x.1 = httpL then { s with pragma := decide (x.2 = typeL) } else if x.1 = contL then hearC s x.2 else if x.1 = charsetL then { s with enc := encP x.2, needs := false } else s

section
variable {w w' : World} {c : Nat} {s : ClaimS}
theorem Cl.lt (h : Cl w c s) : c < w.heap.size := by
  have := h
  unfold Cl at this
  rw [Array.getElem?_eq_some_iff] at this
  exact this.1
theorem Cl.cells (h : Cl w c s) : w.cell? ⟨c, 0, none⟩ = some (.int .i64 s.enc) ∧ w.cell? ⟨c, 1, none⟩ = some (.bool s.needs) ∧ w.cell? ⟨c, 2, none⟩ = some (.bool s.pragma) ∧ (∀ j, w.frozen? ⟨c, j, none⟩ = false) := by
  unfold Cl at h
  refine ⟨?_, ?_, ?_, fun j => ?_⟩
  · simp [World.cell?, h]
  · simp [World.cell?, h]
  · simp [World.cell?, h]
  · simp [World.frozen?, h]
theorem Cl.below (h : Cl w c s) (hb : Below w.heap.size w w') : Cl w' c s := by
  unfold Cl
  rw [hb.block c h.lt]
  exact h
theorem Cl.set0 (h : Cl w c s) (n : Int) : Cl (w.setCell ⟨c, 0, none⟩ (.int .i64 n)) c { s with enc := n } := by
  unfold Cl at h ⊢
  simp [World.setCell, Array.getElem?_modify, h]
theorem Cl.set1 (h : Cl w c s) (v : Bool) : Cl (w.setCell ⟨c, 1, none⟩ (.bool v)) c { s with needs := v } := by
  unfold Cl at h ⊢
  simp [World.setCell, Array.getElem?_modify, h]
theorem Cl.set2 (h : Cl w c s) (v : Bool) : Cl (w.setCell ⟨c, 2, none⟩ (.bool v)) c { s with pragma := v } := by
  unfold Cl at h ⊢
  simp [World.setCell, Array.getElem?_modify, h]

theorem encodingOf_any (x : ByteArray) (w : World) (hx : Small x) :
    Calls Tryd.prog 65 #[.string x] w fun e w' => e = .returned (.int .i64 (encP x.data.toList)) ∧ Below w.heap.size w w' := by
  have HO := hide (of_any x w (by unfold Small at hx; omega))
  unfold encP
  unfold ofF at HO
  clear hx
  cases ho : (ofP (norm x.data.toList)).isSome with
  | true =>
    rw [ho] at HO
    rw [if_pos rfl]
    rw [if_pos rfl] at HO
    generalize ofE (norm x.data.toList) = q at HO ⊢
    clear ho
    go_enter Tryd.func65, Tryd.ntmps65
    go_wp2_with (first | (go_at_call 36; refine (unhide HO).mono ?_; rintro e w1 ⟨rfl, hb⟩; have HB := hide hb; clear hb))
    go_ret
    exact ⟨rfl, unhide HB⟩
  | false =>
    rw [ho] at HO
    rw [if_neg (by simp)]
    rw [if_neg (by simp)] at HO
    generalize ofE (norm x.data.toList) = q at HO
    clear ho
    go_enter Tryd.func65, Tryd.ntmps65
    go_wp2_with (first | (go_at_call 36; refine (unhide HO).mono ?_; rintro e w1 ⟨rfl, hb⟩; have HB := hide hb; clear hb))
    go_ret
    exact ⟨rfl, unhide HB⟩

theorem told_any (h : Cl w c s) :
    Calls Tryd.prog 59 #[.pointer (some ⟨c, 0, none⟩)] w fun e w' => e = .returned (.tuple #[.int .i64 (toldM s).1, .bool (toldM s).2]) ∧ w' = w := by
  obtain ⟨c0, c1, c2, _⟩ := h.cells
  clear h
  obtain ⟨en, nd, pr⟩ := s
  unfold toldM
  simp only at c0 c1 c2 ⊢
  have HM := hide (fun W => meta_any en W)
  by_cases h0 : en < 0
  · rw [if_pos h0]
    go_enter Tryd.func59, Tryd.ntmps59
    go_wp2
    go_ret2
    exact ⟨rfl, rfl⟩
  · rw [if_neg h0]
    have HI : Hid (metaI en = if en = 1 ∨ en = 2 then 0 else if en = 6 then 3 else en) := hide rfl
    rw [← unhide HI] at HM
    generalize metaI en = q at HM HI ⊢
    clear HI
    cases nd with
    | false =>
      rw [if_neg (by simp)]
      go_enter Tryd.func59, Tryd.ntmps59
      go_wp2_with (first | (go_at_call 66; refine ((unhide HM) _).mono ?_; rintro e w1 ⟨rfl, rfl⟩))
      go_ret2
      exact ⟨rfl, rfl⟩
    | true =>
      cases pr with
      | false =>
        rw [if_pos ⟨rfl, rfl⟩]
        go_enter Tryd.func59, Tryd.ntmps59
        go_wp2_with (first | (go_at_call 66; refine ((unhide HM) _).mono ?_; rintro e w1 ⟨rfl, rfl⟩))
        go_ret2
        exact ⟨rfl, rfl⟩
      | true =>
        rw [if_neg (by simp)]
        go_enter Tryd.func59, Tryd.ntmps59
        go_wp2_with (first | (go_at_call 66; refine ((unhide HM) _).mono ?_; rintro e w1 ⟨rfl, rfl⟩))
        go_ret2
        exact ⟨rfl, rfl⟩

theorem hearC_any (h : Cl w c s) (v : ByteArray) (hv : Small v) (hc : ∀ x, contentM v.data.toList = some x → x.length ≤ v.size) :
    Calls Tryd.prog 64 #[.pointer (some ⟨c, 0, none⟩), .string v] w fun e w' => e = .returned (.tuple #[]) ∧ Cl w' c (hearC s v.data.toList) ∧ Mod (· = c) w w' := by
  obtain ⟨c0, c1, c2, cf⟩ := h.cells
  have HH := hide h
  have HC := hide (content_any v w hv)
  unfold hearC
  by_cases h1 : s.enc = -1
  · rw [if_pos h1]
    rw [h1] at c0
    have HSM := hide (show Small v from hv)
    have HLE := hide hc
    clear h cf hc hv
    cases ho : contentM v.data.toList with
    | none =>
      rw [ho] at HC
      have e0 : optV none = .tuple #[.string ⟨#[]⟩, .bool false] := rfl
      rw [e0] at HC
      clear ho e0
      go_enter Tryd.func64, Tryd.ntmps64
      go_wp2_with (first | (go_at_call 15; refine (unhide HC).mono ?_; rintro e w1 ⟨rfl, hb⟩; have HB := hide hb; clear hb))
      refine bodyPost_ret (results_none rfl _ _ _) rfl ?_
      exact ⟨rfl, (unhide HH).below (unhide HB), Mod.of_below (unhide HB)⟩
    | some x =>
      rw [ho] at HC
      have e0 : optV (some x) = .tuple #[.string ⟨x.toArray⟩, .bool true] := rfl
      rw [e0] at HC
      have HE : Hid (∀ W, Calls Tryd.prog 65 #[.string ⟨x.toArray⟩] W fun e w' => e = .returned (.int .i64 (encP x)) ∧ Below W.heap.size W w') := hide (fun W => encodingOf_any ⟨x.toArray⟩ W (by
        have h8 := (unhide HLE) x ho
        have h9 := unhide HSM
        unfold Small at h9 ⊢
        have h10 : (⟨x.toArray⟩ : ByteArray).size = x.length := by show x.toArray.size = _; simp
        omega))
      simp only
      clear ho e0
      generalize encP x = q at HE ⊢
      by_cases hq : q = -2
      · subst hq
        rw [if_pos rfl]
        go_enter Tryd.func64, Tryd.ntmps64
        go_wp2_with (first
          | (go_at_call 15; refine (unhide HC).mono ?_; rintro e w1 ⟨rfl, hb⟩; have HB := hide hb; clear hb)
          | (go_at_call 65; refine ((unhide HE) _).mono ?_; rintro e w2 ⟨rfl, hb⟩; have HB2 := hide ((unhide HB).trans (hb.mono (unhide HB).size)); clear hb))
        go_end0
        exact ⟨rfl, (unhide HH).below (unhide HB2), Mod.of_below (unhide HB2)⟩
      · rw [if_neg hq]
        have hqz : (q != -2) = true := by simpa using hq
        go_enter Tryd.func64, Tryd.ntmps64
        go_wp2_with (first
          | (go_at_call 15; refine (unhide HC).mono ?_; rintro e w1 ⟨rfl, hb⟩; have HB := hide hb; clear hb)
          | (go_at_call 65; refine ((unhide HE) _).mono ?_; rintro e w2 ⟨rfl, hb⟩; have hb2 := (unhide HB).trans (hb.mono (unhide HB).size); have hcl2 := (unhide HH).below hb2; obtain ⟨d0, d1, d2, df⟩ := hcl2.cells; have df0 := df 0; have df1 := df 1; have HCL2 := hide hcl2; have HB2 := hide hb2; clear hb hb2 hcl2 df))
        go_end0
        exact ⟨rfl, ((unhide HCL2).set0 q).set1 true, ((Mod.of_below (F := fun x => x = c) (unhide HB2)).trans (Mod.setCell (F := fun x => x = c) _ ⟨c, 0, none⟩ _ rfl)).trans (Mod.setCell (F := fun x => x = c) _ ⟨c, 1, none⟩ _ rfl)⟩
  · rw [if_neg h1]
    have hz : (s.enc != -1) = true := by simpa using h1
    clear h cf hc hv HC
    go_enter Tryd.func64, Tryd.ntmps64
    go_wp2
    refine bodyPost_ret (results_none rfl _ _ _) rfl ?_
    exact ⟨rfl, unhide HH, Mod.refl _ _⟩

theorem beq_dec (x y : List UInt8) : (x == y) = decide (x = y) := by
  by_cases h : x = y
  · rw [decide_eq_true h, h]; exact beq_self_eq_true y
  · rw [decide_eq_false h]; exact beq_eq_false_iff_ne.2 h
theorem bytes_of (x : List UInt8) : (⟨x.toArray⟩ : ByteArray).data.toList = x := by simp
set_option maxHeartbeats 1000000 in
theorem hear_any (h : Cl w c s) (x : List UInt8 × List UInt8) (hv : Small ⟨x.2.toArray⟩) (hc : ∀ y, contentM x.2 = some y → y.length ≤ x.2.length) :
    Calls Tryd.prog 58 #[.pointer (some ⟨c, 0, none⟩), .string ⟨x.1.toArray⟩, .string ⟨x.2.toArray⟩] w fun e w' => e = .returned (.tuple #[]) ∧ Cl w' c (hearM s x) ∧ Mod (· = c) w w' := by
  obtain ⟨x1, x2⟩ := x
  simp only at hv hc ⊢
  obtain ⟨c0, c1, c2, cf⟩ := h.cells
  have cf0 := cf 0
  have cf1 := cf 1
  have cf2 := cf 2
  have HH := hide h
  have hb := bytes_of x2
  have hsz : (⟨x2.toArray⟩ : ByteArray).size = x2.length := by show x2.toArray.size = _; simp
  have HC := hide (hearC_any h ⟨x2.toArray⟩ hv (fun y hy => by rw [hb] at hy; rw [hsz]; exact hc y hy))
  rw [hb] at HC
  have HE := hide (encodingOf_any ⟨x2.toArray⟩ w hv)
  rw [hb] at HE
  unfold hearM
  simp only
  clear h cf hv hc hb hsz
  have e1 : (⟨x1.toArray⟩ : ByteArray).toList = x1 := ByteArray.toList_mk x1
  have E2 : Hid (((⟨x2.toArray⟩ : ByteArray).toList == [99, 111, 110, 116, 101, 110, 116, 45, 116, 121, 112, 101]) = decide (x2 = typeL)) := hide (by rw [ByteArray.toList_mk]; exact beq_dec _ _)
  generalize (⟨x1.toArray⟩ : ByteArray) = n1 at e1 ⊢
  generalize (⟨x2.toArray⟩ : ByteArray) = n2 at HC HE E2 ⊢
  have z1 : (n1.toList == [104, 116, 116, 112, 45, 101, 113, 117, 105, 118]) = decide (x1 = httpL) := by rw [e1]; exact beq_dec _ _
  have z2 : (n1.toList == [99, 111, 110, 116, 101, 110, 116]) = decide (x1 = contL) := by rw [e1]; exact beq_dec _ _
  have z3 : (n1.toList == [99, 104, 97, 114, 115, 101, 116]) = decide (x1 = charsetL) := by rw [e1]; exact beq_dec _ _
  clear e1
  by_cases h1 : x1 = httpL
  · rw [if_pos h1]
    rw [decide_eq_true h1] at z1
    rw [← unhide E2]
    clear z2 z3 h1
    go_enter Tryd.func58, Tryd.ntmps58
    go_wp2
    go_end0
    exact ⟨rfl, (unhide HH).set2 _, Mod.setCell (F := fun x => x = c) _ ⟨c, 2, none⟩ _ rfl⟩
  · rw [if_neg h1]
    rw [decide_eq_false h1] at z1
    by_cases h2 : x1 = contL
    · rw [if_pos h2]
      rw [decide_eq_true h2] at z2
      clear z3 h1 h2
      go_enter Tryd.func58, Tryd.ntmps58
      go_wp2_with (first | (go_at_call 64; refine (unhide HC).mono ?_; rintro e w1 ⟨rfl, h3, h4⟩; have H3 := hide h3; have H4 := hide h4; clear h3 h4))
      go_end0
      exact ⟨rfl, unhide H3, unhide H4⟩
    · rw [if_neg h2]
      rw [decide_eq_false h2] at z2
      by_cases h3 : x1 = charsetL
      · rw [if_pos h3]
        rw [decide_eq_true h3] at z3
        clear h1 h2 h3
        generalize encP x2 = q at HE ⊢
        go_enter Tryd.func58, Tryd.ntmps58
        go_wp2_with (first | (go_at_call 65; refine (unhide HE).mono ?_; rintro e w1 ⟨rfl, hb2⟩; have hcl2 := (unhide HH).below hb2; obtain ⟨d0, d1, d2, df⟩ := hcl2.cells; have df0 := df 0; have df1 := df 1; have HCL2 := hide hcl2; have HB2 := hide hb2; clear hb2 hcl2 df))
        go_end0
        exact ⟨rfl, ((unhide HCL2).set0 q).set1 false, ((Mod.of_below (F := fun x => x = c) (unhide HB2)).trans (Mod.setCell (F := fun x => x = c) _ ⟨c, 0, none⟩ _ rfl)).trans (Mod.setCell (F := fun x => x = c) _ ⟨c, 1, none⟩ _ rfl)⟩
      · rw [if_neg h3]
        rw [decide_eq_false h3] at z3
        clear h1 h2 h3
        go_enter Tryd.func58, Tryd.ntmps58
        go_wp2
        go_end0
        exact ⟨rfl, unhide HH, Mod.refl _ _⟩
end
end Go.Proofs.YtmikcdmlhocgbaaDoor
