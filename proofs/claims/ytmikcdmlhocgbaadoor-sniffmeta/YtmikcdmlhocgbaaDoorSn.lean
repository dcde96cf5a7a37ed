/-
  Package sniff's attributes: all of a tag's, handed on one by one.
-/
import Derived.Test.YtmikcdmlhocgbaaDoorSm
import Derived.Sort.LoopGhostIn
namespace Go.Proofs.YtmikcdmlhocgbaaDoor
open Go.RowKit Go.Lib Go.Shelf
attribute [local go_sem] Oper.semAt_some

def encsA (x : List UInt8 × List UInt8) : Array Value := #[.string ⟨x.1.toArray⟩, .string ⟨x.2.toArray⟩]

theorem attrV_none : attrV none = .tuple #[.string ⟨#[]⟩, .string ⟨#[]⟩, .bool false] := rfl
theorem attrV_some (x : List UInt8 × List UInt8) : attrV (some x) = .tuple #[.string ⟨x.1.toArray⟩, .string ⟨x.2.toArray⟩, .bool true] := rfl

set_option maxHeartbeats 2000000 in
theorem attributes_in (n : Nat) (hn : 1 ≤ n) (l b : Nat) (t : ByteArray) (hs : Small t) (k0 : Nat) (hk0 : k0 ≤ t.size) (J : List (List UInt8 × List UInt8) → World → Prop) (hJm : ∀ pre A B, J pre A → Mod (· = b) A B → J pre B)
    (hY : ∀ pre x W1, (∃ k k', attrM t.data.toList k = (some x, k')) → J pre W1 → pre.length < t.size + 1 → YieldAt Fence.wide (n - 1) Tryd.prog l (encsA x) W1 fun e W' => e = .returned (.bool true) ∧ J (pre ++ [x]) W' ∧ W'.heap[b]? = W1.heap[b]?)
    (W : World) (hsc : Sc W b t k0) (h0 : J [] W) :
    CallsIn Fence.wide n Tryd.prog 44 #[.pointer (some ⟨b, 0, none⟩), .func (.yield l) #[] #[]] W fun e W' => (∃ v, e = .returned v) ∧ J (attrsM t.data.toList k0).1 W' ∧ Sc W' b t (attrsM t.data.toList k0).2 := by
  obtain ⟨AA, hAA⟩ : ∃ AA, attrsM t.data.toList k0 = AA := ⟨_, rfl⟩
  rw [hAA]
  obtain ⟨AX, AE⟩ := AA
  dsimp only
  have HAA := hide hAA
  clear hAA
  have HS := hide hs
  have HK := hide hk0
  have HSC := hide hsc
  have HJM := hide hJm
  have HY := hide hY
  have H0 := hide h0
  clear hs hk0 hsc hJm hY h0
  refine callsIn_of_wp Tryd.func44 rfl trivial ?_ rfl
  simp only [Tryd.ntmps44, List.size_toArray, List.length_cons, List.length_nil, Nat.reduceAdd, Nat.reduceSub, Array.replicate_succ, Array.replicate_zero, List.push_toArray, List.append_toArray, List.nil_append, List.cons_append]
  gi_wp2
  gi_loopg [] (t.size + 1 - k0) (fun g wx => ∃ (k : Nat) (pre : List (List UInt8 × List UInt8)), k ≤ t.size ∧ k + g = t.size + 1 ∧ pre.length ≤ k ∧ (AX, AE) = (pre ++ (attrsM t.data.toList k).1, (attrsM t.data.toList k).2) ∧ J pre wx ∧ Sc wx b t k)
  case atStart => exact ⟨k0, [], unhide HK, by have := unhide HK; omega, Nat.zero_le _, by rw [← unhide HAA]; simp, unhide H0, unhide HSC⟩
  case round =>
    obtain ⟨k, pre, hk, hkg, hpl, he, hj, hsc⟩ := hrel
    have HA := hide (attribute_any hsc (unhide HS) hk)
    have hle := attr_le (l := t.data.toList) (k := k) (by rw [len_data]; exact hk)
    rw [len_data] at hle
    have HJ := hide hj
    have HE := hide he
    clear hj he hsc
    have HF := hide (And.intro hk (And.intro hkg (And.intro hpl hle)))
    clear hk hkg hpl hle
    cases e : (attrM t.data.toList k).1 with
    | none =>
      have HN := hide (attrsM_none (l := t.data.toList) (k := k) (by rw [len_data]; exact (unhide HF).1) e)
      rw [e, attrV_none] at HA
      generalize (attrM t.data.toList k).2 = k' at HA HN
      clear e HF
      gi_wp2_with fail
      refine ⟨trivial, (callsIn_wide.2 (unhide HA)).mono ?_⟩
      rintro e w1 ⟨rfl, h1⟩
      have HJ1 := hide ((unhide HJM) _ _ _ (unhide HJ) h1.mod)
      have HS1 := hide h1.sc
      clear h1
      dsimp only
      repeat (first | gi_guarded | gi_step | gi_upon)
      refine ⟨fun _ _ => trivial, ?_⟩
      iterate 9 (first | gi_guarded | gi_step | gi_upon)
      refine wpIn_cond_split rfl (fun _ => ?_) (fun h => by cases h)
      gi_step
      simp only [Exit.then, Exit.inBlock]
      refine bodyPost_ret (results_none rfl _ _ _) rfl ?_
      have h9 := unhide HE
      rw [unhide HN] at h9
      simp at h9
      obtain ⟨rfl, rfl⟩ := h9
      exact ⟨⟨_, rfl⟩, unhide HJ1, unhide HS1⟩
    | some x =>
      have HN := hide (attrsM_some (l := t.data.toList) (k := k) (by rw [len_data]; exact (unhide HF).1) e)
      have HT := hide ((unhide HF).2.2.2.2.2 (by rw [e]; rfl))
      have HL := hide (unhide HF).2.2.2.2.1
      have HX : Hid (∃ k k', attrM t.data.toList k = (some x, k')) := hide ⟨k, (attrM t.data.toList k).2, by rw [← e]⟩
      rw [e, attrV_some] at HA
      generalize (attrM t.data.toList k).2 = k' at HA HN HT HL
      clear e
      gi_wp2_with fail
      refine ⟨trivial, (callsIn_wide.2 (unhide HA)).mono ?_⟩
      rintro e w1 ⟨rfl, h1⟩
      have HJ1 := hide ((unhide HJM) _ _ _ (unhide HJ) h1.mod)
      have HS1 := hide h1.sc
      have hY1 := (unhide HY) pre x w1 (unhide HX) (unhide HJ1) (by have := unhide HF; omega)
      obtain ⟨fn, tmps, assign, body, hy, hR⟩ := hY1
      unfold encsA at hy
      have HR := hide hR
      clear h1 hR
      dsimp only
      repeat (first | gi_guarded | gi_step | gi_upon)
      refine (unhide HR).mono ?_
      rintro e W3 ⟨rfl, hJ3, hb3⟩
      have HJ3 := hide hJ3
      have HS3 : Hid (Sc W3 b t k') := hide (by unfold Sc; rw [hb3]; exact unhide HS1)
      clear hJ3 hb3
      dsimp only
      iterate 9 (first | gi_guarded | gi_step | gi_upon)
      refine wpIn_cond_split rfl (fun h => by cases h) (fun _ => ?_)
      repeat gi_step
      go_roundg (t.size + 1 - k')
      case measure => have := unhide HF; have := unhide HT; have := unhide HL; omega
      case rel => exact ⟨k', pre ++ [x], unhide HL, by have := unhide HL; omega, by have := unhide HF; have := unhide HT; simp; omega, by rw [unhide HE, unhide HN]; simp, unhide HJ3, unhide HS3⟩
end Go.Proofs.YtmikcdmlhocgbaaDoor
