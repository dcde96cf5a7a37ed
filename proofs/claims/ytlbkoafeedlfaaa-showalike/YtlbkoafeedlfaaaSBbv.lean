/-
  The walk of ShowAlike.
-/
import Derived.Test.YtlbkoafeedlfaaaSBbt
import Derived.Test.YtlbkoafeedlfaaaSBbu
import Derived.Test.YtlbkoafeedlfaaaSBba
import Derived.Test.YtlbkoafeedlfaaaSBbf
namespace Go.Proofs.Ytlbkoafeedlfaaa
open Go.RowKit

theorem AvOnly.map {ns ns' : List NodeM} (h : AvOnly ns ns') (f : NodeM → Int) (hf : ∀ n v, f { n with av := v } = f n) (i : Nat) : (ns'[i]?).map f = (ns[i]?).map f := by
  by_cases hi : i < ns'.length
  · obtain ⟨n, hn, e⟩ := h.2 i _ (List.getElem?_eq_getElem hi)
    rw [List.getElem?_eq_getElem hi, hn]
    simp only [Option.map_some]
    rw [e, hf]
  · rw [List.getElem?_eq_none (by omega), List.getElem?_eq_none (by have := h.1; omega)]

theorem Sim.avOnly {ns ns' : List NodeM} {os : List OneM} (s : Sim ns os) (h : AvOnly ns ns') : Sim ns' os := by
  refine ⟨by rw [h.1]; exact s.len, fun i n' o hn ho => ?_, fun i o ho => (s.kids i o ho).keep h.1 (fun k _ => ?_), s.down, s.up, s.alone, fun i n' hn hp => ?_, s.inner, s.host, s.ends⟩
  · obtain ⟨n, hn', e⟩ := h.2 i n' hn
    have := s.same i n o hn' ho
    rw [e]
    exact ⟨this.kind, this.space, this.name, this.data, this.system, this.inner, this.attrs, this.up⟩
  · unfold fwd bwd fld
    rw [h.map (·.first) (fun _ _ => rfl), h.map (·.next) (fun _ _ => rfl), h.map (·.last) (fun _ _ => rfl), h.map (·.prev) (fun _ _ => rfl)]
    exact ⟨rfl, rfl⟩
  · obtain ⟨n, hn', e⟩ := h.2 i n' hn
    rw [e] at hp ⊢
    exact s.loose i n hn' hp

theorem copyA_any {w0 w : World} {bA bR : Nat} {os : List OneM} (h : Both w0 w bA bR os) :
    Calls Try.prog 22 #[.pointer (some ⟨bA, 0, none⟩)] w fun e w1 => ∃ bA' ns' F', e = .returned (.pointer (some ⟨bA', 0, none⟩)) ∧ ArS w1 w.heap.size bA' ns' F' ∧ Sim ns' os ∧ Below w.heap.size w w1 ∧ ∀ k, F' k → w.heap.size ≤ k := by
  obtain ⟨ns, F, G, hp⟩ := h
  obtain ⟨bS, g, cap, hA, _⟩ := hp.ar
  refine (copy_any hA).mono ?_
  rintro e w1 ⟨bA', bS', g', cap', ns', rfl, hA', hav, hb, _⟩
  exact ⟨bA', ns', foot bA' bS' g' ns', rfl, ⟨bS', g', cap', hA', fun k => Iff.rfl⟩, hp.sim.avOnly hav, hb, fun k hk => (hA'.foot_lt hk).1⟩

def osX : List OneM := (dataO [oneM 0] 2 ⟨#[120]⟩).1
theorem osX_id : (dataO [oneM 0] 2 ⟨#[120]⟩).2.1 = 1 := by decide +kernel
theorem osX_er : (dataO [oneM 0] 2 ⟨#[120]⟩).2.2 = 0 := by decide +kernel
theorem osX_0 : ∃ o, osX[0]? = some o ∧ o.kids = [] := ⟨oneM 0, by rfl, rfl⟩
theorem osX_same : SSI osX osX 1 1 = true := by decide +kernel

set_option maxHeartbeats 1000000 in
theorem awake3_any (w : World) : Calls Try.prog 30 #[] w fun e w' => e = .returned (.bool true) ∧ Below w.heap.size w w' := by
  have HN := hide (new_any w w.heap.size (Nat.le_refl _))
  go_enter Try.func30, Try.ntmps30
  set_option maxRecDepth 10000 in
  go_wp2_with (first
    | (go_at_call 13; refine (unhide HN).mono ?_; rintro e w1 ⟨F, rfl, h1, hb1, hF⟩; have HT := hide (text_sim h1 Sim.new ⟨#[120]⟩); rw [osX_id, osX_er] at HT; have HB1 := hide hb1; have HF := hide hF; clear h1 hb1 hF)
    | (go_at_call 64; refine (unhide HT).mono ?_; rintro e w2 ⟨rfl, ms, ⟨F2, h2, hm2, hF2⟩, hs2⟩; have HB2 := hide ((unhide HB1).trans (hm2.below (unhide HB1).size (unhide HF))); have H2 := hide h2; have HS2 := hide hs2; have HSH : Hid (Calls Try.prog 28 #[.pointer (some ⟨w.heap.size + 3, 0, none⟩), .int .i64 0] w2 fun e w' => e = .returned (.tuple #[.string ⟨#[]⟩, .int .i64 0]) ∧ Below w2.heap.size w2 w') := hide (by
        obtain ⟨o, ho, hk⟩ := osX_0
        obtain ⟨n, hn, _⟩ := hs2.get ho
        have hp := (hs2.kids 0 o ho).path hn
        rw [hk] at hp
        exact show0 h2 (i := 0) hn hp); clear h2 hm2 hF2 hs2)
    | (go_at_call 28; refine (unhide HSH).mono ?_; rintro e w3 ⟨rfl, hb3⟩; have HSA := hide (sameS_any ((unhide H2).below hb3) ((unhide H2).below hb3) (unhide HS2) (unhide HS2) 1 1); rw [show SSI (dataO [oneM 0] 2 ⟨#[120]⟩).1 (dataO [oneM 0] 2 ⟨#[120]⟩).1 1 1 = true from osX_same] at HSA; have HB3 := hide ((unhide HB2).trans (hb3.mono (unhide HB2).size)); clear hb3)
    | (go_at_call 31; refine (unhide HSA).mono ?_; rintro e w4 ⟨rfl, hb4⟩; have HB4 := hide hb4; clear hb4))
  go_ret
  exact ⟨rfl, (unhide HB3).trans ((unhide HB4).mono (unhide HB3).size)⟩


set_option maxHeartbeats 4000000 in
theorem alike_walk {w : World} (a b : Option Addr) (ca cb : Nat) (l m : List Op3) (hs : Script3 w a l) (hn : l.length ≤ maxLen) (hs' : Script3 w b m) (hn' : m.length ≤ maxLen) (x y : Int) :
    Calls Try.prog 9 #[.slice a l.length ca, .slice b m.length cb, .int .i64 x, .int .i64 y] w fun e w' => e = .returned (.bool true) ∧ Below w.heap.size w w' := by
  have HB1 := hide (build_any a ca l hs hn)
  have HS2 := hide hs'
  have HN2 := hide hn'
  clear hs hs' hn'
  have HWF : Hid (∀ w1 w2 : World, Below w.heap.size w w1 → Below w1.heap.size w1 w2 → Below w.heap.size w w2) := hide (fun w1 w2 h1 h2 => h1.trans (h2.mono h1.size))
  go_enter Try.func9, Try.ntmps9
  set_option maxRecDepth 10000 in
  go_upto_region 3 with (first
    | (go_at_call 27; have _x := unhide HW1; refine (unhide HB2).mono ?_; rintro e w2 ⟨bR2, os2, rfl, hB2, hs2, hl2⟩; have HBo2 := hide hB2; have HSM2 := hide (And.intro hs2 hl2); have HW2 := hide (show Below w1.heap.size w1 w2 by obtain ⟨_, _, _, hp⟩ := hB2; exact hp.below); clear hB2 hs2 hl2)
    | (go_at_call 27; refine (unhide HB1).mono ?_; rintro e w1 ⟨bR1, os1, rfl, hB1, hs1, hl1⟩; have HBo1 := hide hB1; have HSM1 := hide (And.intro hs1 hl1); have HW1 := hide (show Below w.heap.size w w1 by obtain ⟨_, _, _, hp⟩ := hB1; exact hp.below); have HB2 := hide (build_any b cb m ((unhide HS2).below (unhide HW1)) (unhide HN2)); clear hB1 hs1 hl1))
  have HB12 := hide ((unhide HBo1).more (unhide HW2))
  obtain ⟨is, his⟩ : ∃ is, SSI os1 os2 x y = is := ⟨_, rfl⟩
  obtain ⟨hx, hhx⟩ : ∃ hx, hasO os1 x = hx := ⟨_, rfl⟩
  obtain ⟨s1, hs1⟩ : ∃ s, showS os1 x = s := ⟨_, rfl⟩
  obtain ⟨s2, hs2⟩ : ∃ s, showS os2 y = s := ⟨_, rfl⟩
  obtain ⟨e2, he2⟩ : ∃ e : Int, (if hasO os2 y = true then (0 : Int) else 6) = e := ⟨_, rfl⟩
  have HEQ : Hid (is = true → s1 = s2) := hide (fun h => by
    obtain ⟨_, _, _, p1⟩ := unhide HB12
    obtain ⟨_, _, _, p2⟩ := unhide HBo2
    rw [← hs1, ← hs2]
    exact showS_alike p1.sim p2.sim x y (by rw [his]; exact h))
  have HAB : Hid (∀ W, Below w2.heap.size w2 W → Calls Try.prog 31 #[.pointer (some ⟨w.heap.size + 3, 0, none⟩), .int .i64 x, .pointer (some ⟨w1.heap.size + 3, 0, none⟩), .int .i64 y] W fun e w' => e = .returned (.bool is) ∧ Below W.heap.size W w') := hide (fun W hW => by
    obtain ⟨_, _, _, p1⟩ := unhide HB12
    obtain ⟨_, _, _, p2⟩ := unhide HBo2
    rw [← his]
    exact sameS_any (p1.ar.below hW) (p2.ar.below hW) p1.sim p2.sim x y)
  have HBA : Hid (∀ W, Below w2.heap.size w2 W → Calls Try.prog 31 #[.pointer (some ⟨w1.heap.size + 3, 0, none⟩), .int .i64 y, .pointer (some ⟨w.heap.size + 3, 0, none⟩), .int .i64 x] W fun e w' => e = .returned (.bool is) ∧ Below W.heap.size W w') := hide (fun W hW => by
    obtain ⟨_, _, _, p1⟩ := unhide HB12
    obtain ⟨_, _, _, p2⟩ := unhide HBo2
    rw [← his, SSI_comm p1.sim p2.sim]
    exact sameS_any (p2.ar.below hW) (p1.ar.below hW) p2.sim p1.sim y x)
  have HSA : Hid (∀ W, Below w2.heap.size w2 W → Calls Try.prog 28 #[.pointer (some ⟨w.heap.size + 3, 0, none⟩), .int .i64 x] W fun e w' => e = .returned (.tuple #[.string s1, .int .i64 (if hx = true then 0 else 6)]) ∧ Below W.heap.size W w') := hide (fun W hW => by
    obtain ⟨_, _, _, p1⟩ := unhide HB12
    rw [← hs1, ← hhx]
    exact show_any (p1.ar.below hW) p1.sim (unhide HSM1).1 (by have := (unhide HSM1).2; omega) x)
  have HSB : Hid (∀ W, Below w2.heap.size w2 W → Calls Try.prog 28 #[.pointer (some ⟨w1.heap.size + 3, 0, none⟩), .int .i64 y] W fun e w' => e = .returned (.tuple #[.string s2, .int .i64 e2]) ∧ Below W.heap.size W w') := hide (fun W hW => by
    obtain ⟨_, _, _, p2⟩ := unhide HBo2
    rw [← hs2, ← he2]
    exact show_any (p2.ar.below hW) p2.sim (unhide HSM2).1 (by have := (unhide HSM2).2; omega) y)
  have HCP : Hid (∀ W, Below w2.heap.size w2 W → Calls Try.prog 22 #[.pointer (some ⟨w.heap.size + 3, 0, none⟩)] W fun e w' => ∃ bC, e = .returned (.pointer (some ⟨bC, 0, none⟩)) ∧ Below W.heap.size W w' ∧ Calls Try.prog 31 #[.pointer (some ⟨w.heap.size + 3, 0, none⟩), .int .i64 x, .pointer (some ⟨bC, 0, none⟩), .int .i64 x] w' fun e w'' => e = .returned (.bool hx) ∧ Below w'.heap.size w' w'') := hide (fun W hW => by
    have hB := (unhide HB12).more hW
    refine (copyA_any hB).mono ?_
    rintro e w' ⟨bC, ns', F', rfl, hA', hs', hb', _⟩
    refine ⟨bC, rfl, hb', ?_⟩
    obtain ⟨_, _, _, p1⟩ := hB
    refine (sameS_any (p1.ar.below hb') hA' p1.sim hs' x x).mono ?_
    rintro e w'' ⟨rfl, hb''⟩
    exact ⟨by rw [SSI_self p1.sim, hhx], hb''⟩)
  clear his hhx hs1 hs2 he2
  have e00 : (if true = true then (0 : Int) else 6) = 0 := rfl
  have e06 : (if false = true then (0 : Int) else 6) = 6 := rfl
  cases is with
  | true =>
    cases hx with
    | true =>
      rw [e00] at HSA
      clear e00 e06
      obtain rfl : s1 = s2 := unhide HEQ rfl
      have hss : (s1 == s1) = true := by rw [ba_beq]; simp
      have hsn : (s1 != s1) = false := by unfold bne; rw [hss]; rfl
      clear HEQ
      set_option maxRecDepth 10000 in
      go_wp2_with (first
        | (go_at_call 30; refine (awake3_any _).mono ?_; rintro e w9 ⟨rfl, hb9⟩; have HW9 := hide ((unhide HW8).trans (hb9.mono (unhide HW8).size)); clear hb9)
        | (go_at_call 31; have _x := unhide HW7; refine (unhide HC7).mono ?_; rintro e w8 ⟨rfl, hb8⟩; have HW8 := hide ((unhide HW7).trans (hb8.mono (unhide HW7).size)); clear hb8)
        | (go_at_call 22; refine (unhide HCP _ (unhide HW6)).mono ?_; rintro e w7 ⟨bC, rfl, hb7, hc7⟩; have HC7 := hide hc7; have HW7 := hide ((unhide HW6).trans (hb7.mono (unhide HW6).size)); clear hb7 hc7)
        | (go_at_call 31; have _x := unhide HW5; refine (unhide HBA _ (unhide HW5)).mono ?_; rintro e w6 ⟨rfl, hb6⟩; have HW6 := hide ((unhide HW5).trans (hb6.mono (unhide HW5).size)); clear hb6)
        | (go_at_call 28; have _x := unhide HW4; refine (unhide HSB _ (unhide HW4)).mono ?_; rintro e w5 ⟨rfl, hb5⟩; have HW5 := hide ((unhide HW4).trans (hb5.mono (unhide HW4).size)); clear hb5)
        | (go_at_call 28; refine (unhide HSA _ (unhide HW3)).mono ?_; rintro e w4 ⟨rfl, hb4⟩; have HW4 := hide ((unhide HW3).trans (hb4.mono (unhide HW3).size)); clear hb4)
        | (go_at_call 31; refine (unhide HAB _ (Below.refl _ _)).mono ?_; rintro e w3 ⟨rfl, hb3⟩; have HW3 := hide hb3; clear hb3))
      go_ret
      exact ⟨rfl, unhide HWF _ _ (unhide HWF _ _ (Below.refl _ _) (unhide HW1)) ((unhide HW2).trans ((unhide HW9).mono (unhide HW2).size))⟩
    | false =>
      rw [e06] at HSA
      clear e00 e06
      obtain rfl : s1 = s2 := unhide HEQ rfl
      have hss : (s1 == s1) = true := by rw [ba_beq]; simp
      have hsn : (s1 != s1) = false := by unfold bne; rw [hss]; rfl
      clear HEQ
      set_option maxRecDepth 10000 in
      go_wp2_with (first
        | (go_at_call 30; refine (awake3_any _).mono ?_; rintro e w9 ⟨rfl, hb9⟩; have HW9 := hide ((unhide HW8).trans (hb9.mono (unhide HW8).size)); clear hb9)
        | (go_at_call 31; have _x := unhide HW7; refine (unhide HC7).mono ?_; rintro e w8 ⟨rfl, hb8⟩; have HW8 := hide ((unhide HW7).trans (hb8.mono (unhide HW7).size)); clear hb8)
        | (go_at_call 22; refine (unhide HCP _ (unhide HW6)).mono ?_; rintro e w7 ⟨bC, rfl, hb7, hc7⟩; have HC7 := hide hc7; have HW7 := hide ((unhide HW6).trans (hb7.mono (unhide HW6).size)); clear hb7 hc7)
        | (go_at_call 31; have _x := unhide HW5; refine (unhide HBA _ (unhide HW5)).mono ?_; rintro e w6 ⟨rfl, hb6⟩; have HW6 := hide ((unhide HW5).trans (hb6.mono (unhide HW5).size)); clear hb6)
        | (go_at_call 28; have _x := unhide HW4; refine (unhide HSB _ (unhide HW4)).mono ?_; rintro e w5 ⟨rfl, hb5⟩; have HW5 := hide ((unhide HW4).trans (hb5.mono (unhide HW4).size)); clear hb5)
        | (go_at_call 28; refine (unhide HSA _ (unhide HW3)).mono ?_; rintro e w4 ⟨rfl, hb4⟩; have HW4 := hide ((unhide HW3).trans (hb4.mono (unhide HW3).size)); clear hb4)
        | (go_at_call 31; refine (unhide HAB _ (Below.refl _ _)).mono ?_; rintro e w3 ⟨rfl, hb3⟩; have HW3 := hide hb3; clear hb3))
      go_ret
      exact ⟨rfl, unhide HWF _ _ (unhide HWF _ _ (Below.refl _ _) (unhide HW1)) ((unhide HW2).trans ((unhide HW9).mono (unhide HW2).size))⟩
  | false =>
    cases hx with
    | true =>
      rw [e00] at HSA
      clear e00 e06
      clear HEQ
      set_option maxRecDepth 10000 in
      go_wp2_with (first
        | (go_at_call 30; refine (awake3_any _).mono ?_; rintro e w9 ⟨rfl, hb9⟩; have HW9 := hide ((unhide HW8).trans (hb9.mono (unhide HW8).size)); clear hb9)
        | (go_at_call 31; have _x := unhide HW7; refine (unhide HC7).mono ?_; rintro e w8 ⟨rfl, hb8⟩; have HW8 := hide ((unhide HW7).trans (hb8.mono (unhide HW7).size)); clear hb8)
        | (go_at_call 22; refine (unhide HCP _ (unhide HW6)).mono ?_; rintro e w7 ⟨bC, rfl, hb7, hc7⟩; have HC7 := hide hc7; have HW7 := hide ((unhide HW6).trans (hb7.mono (unhide HW6).size)); clear hb7 hc7)
        | (go_at_call 31; have _x := unhide HW5; refine (unhide HBA _ (unhide HW5)).mono ?_; rintro e w6 ⟨rfl, hb6⟩; have HW6 := hide ((unhide HW5).trans (hb6.mono (unhide HW5).size)); clear hb6)
        | (go_at_call 28; have _x := unhide HW4; refine (unhide HSB _ (unhide HW4)).mono ?_; rintro e w5 ⟨rfl, hb5⟩; have HW5 := hide ((unhide HW4).trans (hb5.mono (unhide HW4).size)); clear hb5)
        | (go_at_call 28; refine (unhide HSA _ (unhide HW3)).mono ?_; rintro e w4 ⟨rfl, hb4⟩; have HW4 := hide ((unhide HW3).trans (hb4.mono (unhide HW3).size)); clear hb4)
        | (go_at_call 31; refine (unhide HAB _ (Below.refl _ _)).mono ?_; rintro e w3 ⟨rfl, hb3⟩; have HW3 := hide hb3; clear hb3))
      go_ret
      exact ⟨rfl, unhide HWF _ _ (unhide HWF _ _ (Below.refl _ _) (unhide HW1)) ((unhide HW2).trans ((unhide HW9).mono (unhide HW2).size))⟩
    | false =>
      rw [e06] at HSA
      clear e00 e06
      clear HEQ
      set_option maxRecDepth 10000 in
      go_wp2_with (first
        | (go_at_call 30; refine (awake3_any _).mono ?_; rintro e w9 ⟨rfl, hb9⟩; have HW9 := hide ((unhide HW8).trans (hb9.mono (unhide HW8).size)); clear hb9)
        | (go_at_call 31; have _x := unhide HW7; refine (unhide HC7).mono ?_; rintro e w8 ⟨rfl, hb8⟩; have HW8 := hide ((unhide HW7).trans (hb8.mono (unhide HW7).size)); clear hb8)
        | (go_at_call 22; refine (unhide HCP _ (unhide HW6)).mono ?_; rintro e w7 ⟨bC, rfl, hb7, hc7⟩; have HC7 := hide hc7; have HW7 := hide ((unhide HW6).trans (hb7.mono (unhide HW6).size)); clear hb7 hc7)
        | (go_at_call 31; have _x := unhide HW5; refine (unhide HBA _ (unhide HW5)).mono ?_; rintro e w6 ⟨rfl, hb6⟩; have HW6 := hide ((unhide HW5).trans (hb6.mono (unhide HW5).size)); clear hb6)
        | (go_at_call 28; have _x := unhide HW4; refine (unhide HSB _ (unhide HW4)).mono ?_; rintro e w5 ⟨rfl, hb5⟩; have HW5 := hide ((unhide HW4).trans (hb5.mono (unhide HW4).size)); clear hb5)
        | (go_at_call 28; refine (unhide HSA _ (unhide HW3)).mono ?_; rintro e w4 ⟨rfl, hb4⟩; have HW4 := hide ((unhide HW3).trans (hb4.mono (unhide HW3).size)); clear hb4)
        | (go_at_call 31; refine (unhide HAB _ (Below.refl _ _)).mono ?_; rintro e w3 ⟨rfl, hb3⟩; have HW3 := hide hb3; clear hb3))
      go_ret
      exact ⟨rfl, unhide HWF _ _ (unhide HWF _ _ (Below.refl _ _) (unhide HW1)) ((unhide HW2).trans ((unhide HW9).mono (unhide HW2).size))⟩
end Go.Proofs.Ytlbkoafeedlfaaa
