/-
  Package sniff's scanner: an attribute.
-/
import Derived.Test.YtmikcdmlhocgbaaDoorSk
import Derived.WalkMore
import Derived.ScopeJumps
import Derived.OwnWalk
namespace Go.Proofs.YtmikcdmlhocgbaaDoor
open Go.RowKit Go.Lib

def attr3 (l : List UInt8) (k : Nat) : Nat := passP blankP l (nameE l k)
def attr4 (l : List UInt8) (k : Nat) : Nat := passP blankP l (attr3 l k + 1)
/-- An attribute from a place where blanks are passed over, and the place behind. -/
def attrA (l : List UInt8) (k : Nat) : Option (List UInt8 × List UInt8) × Nat :=
  if seesM l k [62] then (none, k + 1)
  else if l.length ≤ nameE l k then (none, nameE l k)
  else if seesM l (attr3 l k) [61] then (if valueO l (attr4 l k) then (some (nameM l k, valueV l (attr4 l k)), valueE l (attr4 l k)) else (none, valueE l (attr4 l k)))
  else (some (nameM l k, []), attr3 l k)
def attrM (l : List UInt8) (k : Nat) : Option (List UInt8 × List UInt8) × Nat := attrA l (passP gapP l k)
def attrV (o : Option (List UInt8 × List UInt8)) : Value := .tuple #[.string ⟨((o.map (·.1)).getD []).toArray⟩, .string ⟨((o.map (·.2)).getD []).toArray⟩, .bool o.isSome]

theorem valueE_le {l : List UInt8} {k : Nat} (hk : k ≤ l.length) : k ≤ valueE l k ∧ valueE l k ≤ l.length := by
  unfold valueE
  split
  · rename_i h
    have hlt : k < l.length := by
      unfold amongM at h
      cases e : l[k]? with
      | none => rw [e] at h; cases h
      | some c => exact (List.getElem?_eq_some_iff.1 e).1
    refine ⟨?_, quotedM_le hlt⟩
    unfold quotedM
    rw [List.getElem?_eq_getElem hlt]
    simp only
    have := findM_spec (x := [l[k]]) (l := l) (k := k + 1) rfl (by omega)
    split <;> simp only <;> omega
  · exact passP_le hk

section
variable {w w' : World} {b : Nat} {t : ByteArray} {k : Nat}

set_option maxHeartbeats 4000000 in
set_option maxRecDepth 10000 in
theorem attrA_any (hs : Small t) (hk : k ≤ t.size) (hp : Calls Tryd.prog 30 #[.pointer (some ⟨b, 0, none⟩), .func (.func 67) #[.pointer (some ⟨b, 0, none⟩)] #[]] w fun e w' => e = .returned (.tuple #[]) ∧ Gone w w' b t k) :
    Calls Tryd.prog 60 #[.pointer (some ⟨b, 0, none⟩)] w fun e w' => e = .returned (attrV (attrA t.data.toList k).1) ∧ Gone w w' b t (attrA t.data.toList k).2 := by
  have HPG := hide hp
  have HS := hide hs
  have HL1 := hide hk
  have hel := nameE_le (l := t.data.toList) (k := k) (by rw [len_data]; exact hk)
  rw [len_data] at hel
  have hw1 : IntKind.i64.wrap ((k : Int) + 1) = (k : Int) + 1 := by unfold Small at hs; exact wrap_add k 1 (by omega) (by omega)
  clear hp
  unfold attrA
  rw [len_data]
  cases hr1 : seesM t.data.toList k [62] with
  | true =>
    rw [if_pos rfl]
    have HR1 := hide hr1
    clear hr1 hs hk hel
    go_enter Tryd.func60, Tryd.ntmps60
    go_wp2
    refine wp_scope_jumps 0 (fun a' w' => Gone w w' b t (k + 1) ∧ ∃ (u0 u1 u2 u3 u4 u5 u6 u7 u8 u9 u10 u11 u12 u13 u14 u15 u16 u17 u18 u19 u20 u21 u22 u23 u24 u25 u26 u27 u28 u29 u30 u31 u32 u33 u34 u35 u36 u37 u38 u39 u40 u41 u42 u43 u44 u45 u46 u47 u48 u49 : Value), a' = { tmps := #[u0, u1, u2, u3, u4, u5, u6, u7, u8, u9, u10, u11, u12, u13, u14, u15, u16, u17, u18, u19, u20, u21, u22, u23, u24, u25, u26, u27, u28, u29, u30, u31, u32, u33, u34, u35, u36, u37, u38, u39, u40, u41, u42, u43, u44, u45, u46, u47, u48, u49], defers := [] }) (fun _ _ => 0) rfl ?_ ?_
    · go_wp2_with (first
        | (go_at_call 32; refine (unhide HS1).mono ?_; rintro e w2 ⟨rfl, n2, rfl⟩; have HG2 := hide (((unhide HG1).dn n2).set (k + 1)))
        | (go_at_call 30; refine (unhide HPG).mono ?_; rintro e w1 ⟨rfl, h1⟩; obtain ⟨a0, a1, af⟩ := h1.sc.cells; have af1 := af 1; have HG1 := hide h1; have HS1 := hide (sees1 h1.sc (unhide HL1) (unhide HS) 62); rw [unhide HR1] at HS1; clear h1 af))
      go_step3
      exact ⟨rfl, unhide HG2, _, _, _, _, _, _, _, _, _, _, _, _, _, _, _, _, _, _, _, _, _, _, _, _, _, _, _, _, _, _, _, _, _, _, _, _, _, _, _, _, _, _, _, _, _, _, _, _, _, _, rfl⟩
    · rintro a' w' ⟨hg, u0, u1, u2, u3, u4, u5, u6, u7, u8, u9, u10, u11, u12, u13, u14, u15, u16, u17, u18, u19, u20, u21, u22, u23, u24, u25, u26, u27, u28, u29, u30, u31, u32, u33, u34, u35, u36, u37, u38, u39, u40, u41, u42, u43, u44, u45, u46, u47, u48, u49, rfl⟩
      have HGJ := hide hg
      clear hg
      go_wp2
      simp only [Exit.jump]
      go_ret3
      exact ⟨rfl, unhide HGJ⟩
  | false =>
    rw [if_neg (by simp)]
    have HR1 := hide hr1
    have HL3 := hide hel.2
    by_cases ho : t.size ≤ nameE t.data.toList k
    · rw [if_pos ho]
      have HD3 : Hid (decide (t.size ≤ nameE t.data.toList k) = true) := hide (by simpa using ho)
      clear hr1 hs hk hel ho hw1
      go_enter Tryd.func60, Tryd.ntmps60
      go_wp2
      refine wp_scope_jumps 0 (fun a' w' => Gone w w' b t (nameE t.data.toList k) ∧ ∃ (u0 u1 u2 u3 u4 u5 u6 u7 u8 u9 u10 u11 u12 u13 u14 u15 u16 u17 u18 u19 u20 u21 u22 u23 u24 u25 u26 u27 u28 u29 u30 u31 u32 u33 u34 u35 u36 u37 u38 u39 u40 u41 u42 u43 u44 u45 u46 u47 u48 u49 : Value), a' = { tmps := #[u0, u1, u2, u3, u4, u5, u6, u7, u8, u9, u10, u11, u12, u13, u14, u15, u16, u17, u18, u19, u20, u21, u22, u23, u24, u25, u26, u27, u28, u29, u30, u31, u32, u33, u34, u35, u36, u37, u38, u39, u40, u41, u42, u43, u44, u45, u46, u47, u48, u49], defers := [] }) (fun _ _ => 0) rfl ?_ ?_
      · go_wp2_with (first
          | (go_at_call 32; refine (unhide HS1).mono ?_; rintro e w2 ⟨rfl, n2, rfl⟩; have HN := hide (name_any ((unhide HG1).dn n2).sc (unhide HL1) (unhide HS)))
          | (go_at_call 30; refine (unhide HPG).mono ?_; rintro e w1 ⟨rfl, h1⟩; obtain ⟨a0, a1, af⟩ := h1.sc.cells; have af1 := af 1; have HG1 := hide h1; have HS1 := hide (sees1 h1.sc (unhide HL1) (unhide HS) 62); rw [unhide HR1] at HS1; clear h1 af)
          | (go_at_call 68; refine (unhide HN).mono ?_; rintro e w3 ⟨rfl, h3⟩; have HG3 := hide (((unhide HG1).dn n2).then h3); have HO := hide (over_any h3.sc); rw [unhide HD3] at HO; clear h3)
          | (go_at_call 20; refine (unhide HO).mono ?_; rintro e w4 ⟨rfl, n4, rfl⟩))
        go_step3
        exact ⟨rfl, (unhide HG3).dn _, _, _, _, _, _, _, _, _, _, _, _, _, _, _, _, _, _, _, _, _, _, _, _, _, _, _, _, _, _, _, _, _, _, _, _, _, _, _, _, _, _, _, _, _, _, _, _, _, _, _, rfl⟩
      · rintro a' w' ⟨hg, u0, u1, u2, u3, u4, u5, u6, u7, u8, u9, u10, u11, u12, u13, u14, u15, u16, u17, u18, u19, u20, u21, u22, u23, u24, u25, u26, u27, u28, u29, u30, u31, u32, u33, u34, u35, u36, u37, u38, u39, u40, u41, u42, u43, u44, u45, u46, u47, u48, u49, rfl⟩
        have HGJ := hide hg
        clear hg
        go_wp2
        simp only [Exit.jump]
        go_ret3
        exact ⟨rfl, unhide HGJ⟩
    · rw [if_neg ho]
      have HD3 : Hid (decide (t.size ≤ nameE t.data.toList k) = false) := hide (by simpa using ho)
      have h3l := passP_le (p := blankP) (l := t.data.toList) (k := nameE t.data.toList k) (by rw [len_data]; exact hel.2)
      rw [len_data] at h3l
      unfold attr4 attr3
      have HP3 : Hid (∀ W, Sc W b t (nameE t.data.toList k) → Calls Tryd.prog 30 #[.pointer (some ⟨b, 0, none⟩), .func (.func 31) #[.pointer (some ⟨b, 0, none⟩)] #[]] W fun e w'' => e = .returned (.tuple #[]) ∧ Sc w'' b t (passP blankP t.data.toList (nameE t.data.toList k)) ∧ Mod (· = b) W w'') := hide (fun W hW => passBlank hW hs hel.2)
      generalize hK3 : passP blankP t.data.toList (nameE t.data.toList k) = K3 at h3l HP3 ⊢
      have HL5 := hide h3l.2
      have hw3 : IntKind.i64.wrap ((K3 : Int) + 1) = (K3 : Int) + 1 := by unfold Small at hs; exact wrap_add K3 1 (by omega) (by omega)
      clear hK3
      cases hr5 : seesM t.data.toList K3 [61] with
      | false =>
        rw [if_neg (by simp)]
        have HR5 := hide hr5
        clear hr1 hs hk hel ho hr5 h3l hw1 hw3
        go_enter Tryd.func60, Tryd.ntmps60
        go_wp2
        go_step3
        go_wp2_with (first
          | (have _x := unhide HS5; go_at_call 32; refine (unhide HS5).mono ?_; rintro e w6 ⟨rfl, n6, rfl⟩)
          | (have _x := unhide HPB; go_at_call 30; refine (unhide HPB).mono ?_; rintro e w5 ⟨rfl, h5, h5m⟩; obtain ⟨b0, b1, bf⟩ := h5.cells; have bf1 := bf 1; have HG5 : Hid (Gone w w5 b t K3) := hide (((unhide HG3).dn n4).then ⟨h5, h5m⟩); have HS5 := hide (sees1 h5 (unhide HL5) (unhide HS) 61); rw [unhide HR5] at HS5; clear h5 h5m bf)
          | (go_at_call 32; refine (unhide HS1).mono ?_; rintro e w2 ⟨rfl, n2, rfl⟩; have HN := hide (name_any ((unhide HG1).dn n2).sc (unhide HL1) (unhide HS)))
          | (go_at_call 30; refine (unhide HPG).mono ?_; rintro e w1 ⟨rfl, h1⟩; obtain ⟨a0, a1, af⟩ := h1.sc.cells; have af1 := af 1; have HG1 := hide h1; have HS1 := hide (sees1 h1.sc (unhide HL1) (unhide HS) 62); rw [unhide HR1] at HS1; clear h1 af)
          | (go_at_call 68; refine (unhide HN).mono ?_; rintro e w3 ⟨rfl, h3⟩; have HG3 := hide (((unhide HG1).dn n2).then h3); have HO := hide (over_any h3.sc); rw [unhide HD3] at HO; clear h3)
          | (go_at_call 20; refine (unhide HO).mono ?_; rintro e w4 ⟨rfl, n4, rfl⟩; have HPB := hide ((unhide HP3) _ ((unhide HG3).dn n4).sc)))
        try rw [Exit.noGoto_ret]
        go_ret3
        exact ⟨rfl, (unhide HG5).dn _⟩
      | true =>
        rw [if_pos rfl]
        have HR5 := hide hr5
        have h61 := sees_fits hr5 (by decide)
        rw [len_data] at h61
        have h1 : ([61] : List UInt8).length = 1 := rfl
        have HL6 : Hid (K3 + 1 ≤ t.size) := hide (by omega)
        have h4l := passP_le (p := blankP) (l := t.data.toList) (k := K3 + 1) (by rw [len_data]; omega)
        rw [len_data] at h4l
        have HP4 : Hid (∀ W, Sc W b t (K3 + 1) → Calls Tryd.prog 30 #[.pointer (some ⟨b, 0, none⟩), .func (.func 31) #[.pointer (some ⟨b, 0, none⟩)] #[]] W fun e w'' => e = .returned (.tuple #[]) ∧ Sc w'' b t (passP blankP t.data.toList (K3 + 1)) ∧ Mod (· = b) W w'') := hide (fun W hW => passBlank hW hs (by omega))
        generalize hK4 : passP blankP t.data.toList (K3 + 1) = K4 at h4l HP4 ⊢
        have HL7 := hide h4l.2
        clear hK4
        cases hv : valueO t.data.toList K4 with
        | true =>
          rw [if_pos rfl]
          have HVO := hide hv
          clear hr1 hs hk hel ho hr5 h3l hw1 h61 h1 h4l hv
          go_enter Tryd.func60, Tryd.ntmps60
          go_wp2
          go_step3
          go_wp2_with (first
            | (have _x := unhide HPC; go_at_call 30; refine (unhide HPC).mono ?_; rintro e w7 ⟨rfl, h7, h7m⟩; have HG7 : Hid (Gone w w7 b t K4) := hide ((unhide HG6).then ⟨h7, h7m⟩); have HV := hide (value_any h7 (unhide HL7) (unhide HS)); rw [unhide HVO] at HV; clear h7 h7m)
            | (go_at_call 69; refine (unhide HV).mono ?_; rintro e w8 ⟨rfl, h8⟩; have HG8 := hide ((unhide HG7).then h8); clear h8)
            | (have _x := unhide HS5; go_at_call 32; refine (unhide HS5).mono ?_; rintro e w6 ⟨rfl, n6, rfl⟩; have HG6 := hide (((unhide HG5).dn n6).set (K3 + 1)); have HPC := hide ((unhide HP4) _ (unhide HG6).sc))
            | (have _x := unhide HPB; go_at_call 30; refine (unhide HPB).mono ?_; rintro e w5 ⟨rfl, h5, h5m⟩; obtain ⟨b0, b1, bf⟩ := h5.cells; have bf1 := bf 1; have HG5 : Hid (Gone w w5 b t K3) := hide (((unhide HG3).dn n4).then ⟨h5, h5m⟩); have HS5 := hide (sees1 h5 (unhide HL5) (unhide HS) 61); rw [unhide HR5] at HS5; clear h5 h5m bf)
            | (go_at_call 32; refine (unhide HS1).mono ?_; rintro e w2 ⟨rfl, n2, rfl⟩; have HN := hide (name_any ((unhide HG1).dn n2).sc (unhide HL1) (unhide HS)))
            | (go_at_call 30; refine (unhide HPG).mono ?_; rintro e w1 ⟨rfl, h1⟩; obtain ⟨a0, a1, af⟩ := h1.sc.cells; have af1 := af 1; have HG1 := hide h1; have HS1 := hide (sees1 h1.sc (unhide HL1) (unhide HS) 62); rw [unhide HR1] at HS1; clear h1 af)
            | (go_at_call 68; refine (unhide HN).mono ?_; rintro e w3 ⟨rfl, h3⟩; have HG3 := hide (((unhide HG1).dn n2).then h3); have HO := hide (over_any h3.sc); rw [unhide HD3] at HO; clear h3)
            | (go_at_call 20; refine (unhide HO).mono ?_; rintro e w4 ⟨rfl, n4, rfl⟩; have HPB := hide ((unhide HP3) _ ((unhide HG3).dn n4).sc)))
          try rw [Exit.noGoto_ret]
          go_ret3
          exact ⟨rfl, unhide HG8⟩
        | false =>
          rw [if_neg (by simp)]
          have HVO := hide hv
          clear hr1 hs hk hel ho hr5 h3l hw1 h61 h1 h4l hv
          go_enter Tryd.func60, Tryd.ntmps60
          go_wp2
          refine wp_scope_jumps 0 (fun a' w' => Gone w w' b t (valueE t.data.toList K4) ∧ ∃ (u0 u1 u2 u3 u4 u5 u6 u7 u8 u9 u10 u11 u12 u13 u14 u15 u16 u17 u18 u19 u20 u21 u22 u23 u24 u25 u26 u27 u28 u29 u30 u31 u32 u33 u34 u35 u36 u37 u38 u39 u40 u41 u42 u43 u44 u45 u46 u47 u48 u49 : Value), a' = { tmps := #[u0, u1, u2, u3, u4, u5, u6, u7, u8, u9, u10, u11, u12, u13, u14, u15, u16, u17, u18, u19, u20, u21, u22, u23, u24, u25, u26, u27, u28, u29, u30, u31, u32, u33, u34, u35, u36, u37, u38, u39, u40, u41, u42, u43, u44, u45, u46, u47, u48, u49], defers := [] }) (fun _ _ => 0) rfl ?_ ?_
          · go_wp2_with (first
              | (have _x := unhide HPC; go_at_call 30; refine (unhide HPC).mono ?_; rintro e w7 ⟨rfl, h7, h7m⟩; have HG7 : Hid (Gone w w7 b t K4) := hide ((unhide HG6).then ⟨h7, h7m⟩); have HV := hide (value_any h7 (unhide HL7) (unhide HS)); rw [unhide HVO] at HV; clear h7 h7m)
              | (go_at_call 69; refine (unhide HV).mono ?_; rintro e w8 ⟨rfl, h8⟩; have HG8 := hide ((unhide HG7).then h8); clear h8)
              | (have _x := unhide HS5; go_at_call 32; refine (unhide HS5).mono ?_; rintro e w6 ⟨rfl, n6, rfl⟩; have HG6 := hide (((unhide HG5).dn n6).set (K3 + 1)); have HPC := hide ((unhide HP4) _ (unhide HG6).sc))
              | (have _x := unhide HPB; go_at_call 30; refine (unhide HPB).mono ?_; rintro e w5 ⟨rfl, h5, h5m⟩; obtain ⟨b0, b1, bf⟩ := h5.cells; have bf1 := bf 1; have HG5 : Hid (Gone w w5 b t K3) := hide (((unhide HG3).dn n4).then ⟨h5, h5m⟩); have HS5 := hide (sees1 h5 (unhide HL5) (unhide HS) 61); rw [unhide HR5] at HS5; clear h5 h5m bf)
              | (go_at_call 32; refine (unhide HS1).mono ?_; rintro e w2 ⟨rfl, n2, rfl⟩; have HN := hide (name_any ((unhide HG1).dn n2).sc (unhide HL1) (unhide HS)))
              | (go_at_call 30; refine (unhide HPG).mono ?_; rintro e w1 ⟨rfl, h1⟩; obtain ⟨a0, a1, af⟩ := h1.sc.cells; have af1 := af 1; have HG1 := hide h1; have HS1 := hide (sees1 h1.sc (unhide HL1) (unhide HS) 62); rw [unhide HR1] at HS1; clear h1 af)
              | (go_at_call 68; refine (unhide HN).mono ?_; rintro e w3 ⟨rfl, h3⟩; have HG3 := hide (((unhide HG1).dn n2).then h3); have HO := hide (over_any h3.sc); rw [unhide HD3] at HO; clear h3)
              | (go_at_call 20; refine (unhide HO).mono ?_; rintro e w4 ⟨rfl, n4, rfl⟩; have HPB := hide ((unhide HP3) _ ((unhide HG3).dn n4).sc)))
            go_step3
            exact ⟨rfl, unhide HG8, _, _, _, _, _, _, _, _, _, _, _, _, _, _, _, _, _, _, _, _, _, _, _, _, _, _, _, _, _, _, _, _, _, _, _, _, _, _, _, _, _, _, _, _, _, _, _, _, _, _, rfl⟩
          · rintro a' w' ⟨hg, u0, u1, u2, u3, u4, u5, u6, u7, u8, u9, u10, u11, u12, u13, u14, u15, u16, u17, u18, u19, u20, u21, u22, u23, u24, u25, u26, u27, u28, u29, u30, u31, u32, u33, u34, u35, u36, u37, u38, u39, u40, u41, u42, u43, u44, u45, u46, u47, u48, u49, rfl⟩
            have HGJ := hide hg
            clear hg
            go_wp2
            simp only [Exit.jump]
            go_ret3
            exact ⟨rfl, unhide HGJ⟩

theorem attribute_any (h : Sc w b t k) (hs : Small t) (hk : k ≤ t.size) :
    Calls Tryd.prog 60 #[.pointer (some ⟨b, 0, none⟩)] w fun e w' => e = .returned (attrV (attrM t.data.toList k).1) ∧ Gone w w' b t (attrM t.data.toList k).2 := by
  have hle := passP_le (p := gapP) (l := t.data.toList) (k := k) (by rw [len_data]; exact hk)
  rw [len_data] at hle
  exact attrA_any hs hle.2 (passGone (passGap h hs hk) (Gone.refl h))
end
end Go.Proofs.YtmikcdmlhocgbaaDoor
