/-
  A stack of package stack: New with an empty memo, elements popped, put in, swapped and taken out. What is in a scope: reaches over any question, Scope, NodeScope; Special. Elements that leave a stack, plain.
-/
import Derived.Test.YtkakncngkmoegaaGreatSZan
import Derived.Deep.RegionHeld3
import Derived.Test.YtkakncngkmoegaaGreatRows
import Derived.ProofKit
import Derived.OpenShut
import Derived.ShutString
import Derived.ChangeOld
import Derived.Deep.Slices
import Derived.SizedLaws
import Derived.Test.YtkakncngkmoegaaGreatSZak
import Derived.Great.CaseRows
import Derived.Deep.LoopGhost
import Derived.Laws.EntriesVeiled
import Derived.Shelf.GgClosure.Gives
namespace Go.Proofs.YtkakncngkmoegaaGreat
open Go.RowKit

theorem topM_nil : topM [] = -1 := rfl
theorem topM_of {L : List Int} (h : L ≠ []) : ∃ x, L[L.length - 1]? = some x ∧ topM L = x := by
  have hl := List.length_pos_iff.2 h
  refine ⟨L[L.length - 1], List.getElem?_eq_getElem (by omega), ?_⟩
  unfold topM
  rw [show ((L.length : Int) - 1) = ((L.length - 1 : Nat) : Int) by omega]
  exact atM_in (List.getElem?_eq_getElem (by omega))

section
variable {w : World} {base bK bA : Nat} {ks : List Key} {el : Int → Option Cal} {L : List Int} {F FA : Nat → Prop}

/-- The pile's pointer, in whatever world comes of it. -/
theorem StkS.open (h : StkS w base bK bA el L F) : ∃ bP, ∀ w1, Below w.heap.size w w1 → w1.cell? ⟨bK, 1, none⟩ = some (.pointer (some ⟨bP, 0, none⟩)) ∧ ∃ p, p.xs = L ∧ PileAt w1 base bP p ∧ ∀ w' L', UpdP w1 w' base bP p L' → UpdS F w w' base bK bA el L' := by
  obtain ⟨bP, bM, p, v, ms, h, hc, rfl, hF⟩ := h
  exact ⟨bP, fun w1 hb => ⟨(h.below hb).cells.2.1, p, rfl, (h.below hb).pile, fun w' L' hu => UpdS.after hb ((h.below hb).upd hc hF hu)⟩⟩

theorem Good.pos (hg : Good ks L) {x : Int} (hx : x ∈ L) : 0 ≤ x := by
  obtain ⟨i, rfl, _⟩ := elOf_nat (hg.el x hx)
  omega

set_option maxHeartbeats 2000000 in
theorem spop_any (hs : StkS w base bK bA el L F) (hg : Good ks L) (hl : L.length ≤ 32768) : Calls Tryz.prog 38 #[.pointer (some ⟨bK, 0, none⟩)] w fun e w' =>
    e = .returned (.int .i64 (topM L)) ∧ UpdS F w w' base bK bA el (popL L) := by
  have HT := hide (stop_any hs (by omega))
  by_cases h0 : L = []
  · subst h0
    rw [topM_nil] at HT ⊢
    have HS := hide hs
    clear hs hg hl
    go_enter Tryz.func38, Tryz.ntmps38
    go_wp2_with (go_at_call 83; refine (unhide HT).mono ?_; rintro e w1 ⟨rfl, rfl⟩)
    go_ret
    exact ⟨rfl, (unhide HS).upd (Below.refl _ _)⟩
  · obtain ⟨x, hx, ht⟩ := topM_of h0
    rw [ht] at HT ⊢
    have hpos := hg.pos (List.mem_of_getElem? hx)
    have hne : (x != -1) = true := by rw [bne_iff_ne]; omega
    have HLN : Hid (∀ w1, Below w.heap.size w w1 → Calls Tryz.prog 13 #[.pointer (some ⟨bK, 0, none⟩)] w1 fun e w' => e = .returned (.int .i64 L.length) ∧ w1 = w') := hide (fun w1 hb => slen_any (hs.below hb))
    obtain ⟨bP, ho⟩ := hs.open
    have HCUT : Hid (∀ w1, Below w.heap.size w w1 → Calls Tryz.prog 85 #[.pointer (some ⟨bP, 0, none⟩), .int .i64 (IntKind.i64.wrap ((L.length : Int) - 1))] w1 fun e w' => e = .returned (.tuple #[]) ∧ UpdS F w w' base bK bA el (popL L)) := hide (fun w1 hb => by
      obtain ⟨_, p, hp, hpl, hup⟩ := ho w1 hb
      subst hp
      have hlen := List.length_pos_iff.2 h0
      rw [show IntKind.i64.wrap ((p.xs.length : Int) - 1) = ((p.xs.length - 1 : Nat) : Int) by rw [IntKind.wrap_i64]; omega]
      refine (cut_any hpl (by omega) (p.xs.length - 1) (by omega)).mono ?_
      rintro e w' ⟨rfl, hu⟩
      exact ⟨rfl, hup _ _ hu⟩)
    have hc := (ho w (Below.refl _ w)).1
    have hlz : (L.length : Int) ≤ 32768 := by omega
    have hlz1 : (1 : Int) ≤ (L.length : Int) := by have := List.length_pos_iff.2 h0; omega
    generalize L.length = n at *
    clear hs hg hl h0 hx ht hpos ho
    go_enter Tryz.func38, Tryz.ntmps38
    go_wp2_with (go_at_call 83; refine (unhide HT).mono ?_; rintro e w1 ⟨rfl, rfl⟩)
    go_region_with (first | (go_at_call 13; refine ((unhide HLN) _ (by first | exact Below.refl _ _ | exact (Below.refl _ _).drew | exact below_dn (Below.refl _ _) _ | exact (Below.refl _ _).drew.drew)).mono ?_; rintro e w1 ⟨rfl, rfl⟩) | (go_at_call 85; refine ((unhide HCUT) _ (by first | exact Below.refl _ _ | exact (Below.refl _ _).drew | exact below_dn (Below.refl _ _) _ | exact (Below.refl _ _).drew.drew)).mono ?_; rintro e w2 ⟨rfl, hu⟩; have HU := hide hu; clear hu))
    all_goals go_wp2
    all_goals go_ret
    all_goals exact ⟨rfl, unhide HU⟩

set_option maxHeartbeats 2000000 in
theorem sremove_any (hs : StkS w base bK bA el L F) (hg : Good ks L) (hl : L.length ≤ 32768) (id : Int) : Calls Tryz.prog 81 #[.pointer (some ⟨bK, 0, none⟩), .int .i64 id] w fun e w' =>
    e = .returned (.int .i64 (removeE L id)) ∧ UpdS F w w' base bK bA el (removeL L id) := by
  have HF := hide (sfind_any hs (by omega) hg.nodup id)
  obtain ⟨bP, ho⟩ := hs.open
  have HS := hide hs
  have HM : Hid (Calls Tryz.prog 48 #[.pointer (some ⟨bK, 0, none⟩)] w fun e w' => e = .returned (.bool true) ∧ w = w') := hide (by
    exact hs.self.made)
  obtain ⟨hc, p, rfl, hpl, hup⟩ := ho w (Below.refl _ w)
  have HUP := hide hup
  unfold removeE removeL
  by_cases hm : id ∈ p.xs
  · obtain ⟨j, hj, hj2, hj3⟩ := findM_in hm
    have hji : p.xs.idxOf id = j := idxOf_at hg.nodup hj2
    rw [if_pos hm, if_pos hm, hji]
    rw [hj] at HF
    have HR := hide (remove_any hpl (by omega) j hj3)
    have hz : (0 : Int) ≤ (j : Int) := by omega
    clear hs ho hpl hup hg hl hm hj hj2 hj3 hji
    go_enter Tryz.func81, Tryz.ntmps81
    go_wp2_with (first | (go_at_call 48; refine (unhide HM).mono ?_; rintro e w' ⟨rfl, rfl⟩) | (go_at_call 89; refine (unhide HF).mono ?_; rintro e w' ⟨rfl, rfl⟩) | (go_at_call 119; refine (unhide HR).mono ?_; rintro e w2 ⟨rfl, hu⟩; have HU := hide ((unhide HUP) _ _ hu); clear hu))
    go_ret
    exact ⟨rfl, unhide HU⟩
  · rw [if_neg hm, if_neg hm]
    rw [findM_out hm] at HF
    clear hs ho hpl hup hg hl hm
    go_enter Tryz.func81, Tryz.ntmps81
    go_wp2_with (first | (go_at_call 48; refine (unhide HM).mono ?_; rintro e w' ⟨rfl, rfl⟩) | (go_at_call 89; refine (unhide HF).mono ?_; rintro e w' ⟨rfl, rfl⟩))
    go_ret
    exact ⟨rfl, (unhide HS).upd (Below.refl _ _)⟩

set_option maxHeartbeats 2000000 in
theorem sput_any (ha : ArK w base bA ks FA) (hs : StkS w base bK bA (elOf ks) L F) (hg : Good ks L) (i id : Int) : Calls Tryz.prog 189 #[.pointer (some ⟨bK, 0, none⟩), .int .i64 i, .int .i64 id] w fun e w' =>
    e = .returned (.int .i64 (putE ks L i id)) ∧ UpdS F w w' base bK bA (elOf ks) (putL ks L i id) := by
  have hl := (Live.mk' ha hs).few hg
  have HE := hide (enter_any ha hs hg id)
  have HLN : Hid (∀ w1, UpdS F w w1 base bK bA (elOf ks) L → Calls Tryz.prog 13 #[.pointer (some ⟨bK, 0, none⟩)] w1 fun e w' => e = .returned (.int .i64 L.length) ∧ w1 = w') := hide (fun w1 hb => hb.len)
  have HLn := hide hl
  unfold putL putE
  clear ha hs hg hl
  by_cases h0 : enterE ks L id = 0
  · rw [h0] at HE ⊢
    simp only [if_true]
    clear h0
    by_cases hi : i < 0
    · rw [if_pos (.inl hi), if_neg (by decide)]
      go_enter Tryz.func189, Tryz.ntmps189
      go_wp2_with (go_at_call 63; refine (unhide HE).mono ?_; rintro e w1 ⟨rfl, hb⟩; have HB := hide hb; clear hb)
      go_ret
      exact ⟨rfl, unhide HB⟩
    · by_cases hj : (L.length : Int) < i
      · rw [if_pos (.inr hj), if_neg (by decide)]
        generalize L.length = n at *
        go_enter Tryz.func189, Tryz.ntmps189
        go_wp2_with (first | (go_at_call 63; refine (unhide HE).mono ?_; rintro e w1 ⟨rfl, hb⟩; have HB := hide hb; clear hb) | (go_at_call 13; refine ((unhide HLN) w1 (unhide HB)).mono ?_; rintro e w' ⟨rfl, rfl⟩))
        go_ret
        exact ⟨rfl, unhide HB⟩
      · rw [if_neg (by omega), if_pos rfl]
        obtain ⟨k, rfl⟩ : ∃ k : Nat, i = (k : Int) := ⟨i.toNat, by omega⟩
        rw [Int.toNat_natCast]
        have HK : Hid (k ≤ L.length) := hide (by omega)
        have hnl : ∃ n, L.length = n := ⟨_, rfl⟩
        obtain ⟨n, hn⟩ := hnl
        rw [hn] at HLN hj
        have HNN := hide hn
        clear hn
        go_enter Tryz.func189, Tryz.ntmps189
        go_wp2_with (first | (go_at_call 63; refine (unhide HE).mono ?_; rintro e w1 ⟨rfl, hb⟩; have HB := hide hb; obtain ⟨bP, p, hc1, hp, hpl, hup⟩ := hb.open; subst hp; have HPL := hide hpl; have HUP := hide hup; clear hb hpl hup) | (go_at_call 13; refine ((unhide HLN) w1 (unhide HB)).mono ?_; rintro e w' ⟨rfl, rfl⟩) | (go_at_call 217; refine (put_any (unhide HPL) (by have := unhide HLn; omega) k (unhide HK) id).mono ?_; rintro e w2 ⟨rfl, hu⟩; have HU := hide ((unhide HUP) _ _ hu); clear hu))
        go_ret
        exact ⟨rfl, unhide HU⟩
  · rw [if_neg h0, if_neg h0]
    have h0' : (enterE ks L id != 0) = true := by simpa using h0
    generalize enterE ks L id = r at *
    clear h0
    go_enter Tryz.func189, Tryz.ntmps189
    go_wp2_with (go_at_call 63; refine (unhide HE).mono ?_; rintro e w1 ⟨rfl, hb⟩; have HB := hide hb; clear hb)
    go_ret
    exact ⟨rfl, unhide HB⟩

set_option maxHeartbeats 2000000 in
theorem sswap_any (ha : ArK w base bA ks FA) (hs : StkS w base bK bA (elOf ks) L F) (hg : Good ks L) (old id : Int) : Calls Tryz.prog 192 #[.pointer (some ⟨bK, 0, none⟩), .int .i64 old, .int .i64 id] w fun e w' =>
    e = .returned (.int .i64 (swapE ks L old id)) ∧ UpdS F w w' base bK bA (elOf ks) (swapL ks L old id) := by
  have hl := (Live.mk' ha hs).few hg
  have HE := hide (enter_any ha hs hg id)
  have HF : Hid (∀ w1, UpdS F w w1 base bK bA (elOf ks) L → Calls Tryz.prog 89 #[.pointer (some ⟨bK, 0, none⟩), .int .i64 old] w1 fun e w' => e = .returned (.int .i64 (findM L old)) ∧ w1 = w') := hide (fun w1 hb => hb.find (by omega) hg.nodup old)
  have HM : Hid (∀ w1, UpdS F w w1 base bK bA (elOf ks) L → Calls Tryz.prog 48 #[.pointer (some ⟨bK, 0, none⟩)] w1 fun e w' => e = .returned (.bool true) ∧ w1 = w') := hide (fun w1 hb => hb.made)
  have HND := hide hg.nodup
  unfold swapL swapE
  clear ha hs hg hl
  by_cases hm : old ∈ L
  · obtain ⟨j, hj, hj2, hj3⟩ := findM_in hm
    have hji : L.idxOf old = j := idxOf_at (unhide HND) hj2
    rw [if_pos hm, hji]
    rw [hj] at HF
    have hz : (0 : Int) ≤ (j : Int) := by omega
    have HJ := hide hj3
    clear hm hj hj2 hj3 hji
    by_cases h0 : enterE ks L id = 0
    · rw [h0] at HE ⊢
      simp only [if_true]
      clear h0
      go_enter Tryz.func192, Tryz.ntmps192
      go_wp2_with (first | (go_at_call 63; refine (unhide HE).mono ?_; rintro e w1 ⟨rfl, hb⟩; have HB := hide hb; obtain ⟨bP, p, hc1, hp, hpl, hup⟩ := hb.open; subst hp; have HPL := hide hpl; have HUP := hide hup; clear hb hpl hup) | (go_at_call 89; refine ((unhide HF) w1 (unhide HB)).mono ?_; rintro e w' ⟨rfl, rfl⟩) | (go_at_call 48; refine ((unhide HM) w1 (unhide HB)).mono ?_; rintro e w' ⟨rfl, rfl⟩) | (go_at_call 218; refine (swap_any (unhide HPL) j (unhide HJ) id).mono ?_; rintro e w2 ⟨rfl, hu⟩; have HU := hide ((unhide HUP) _ _ hu); clear hu))
      go_ret
      exact ⟨rfl, unhide HU⟩
    · rw [if_neg h0]
      have h0' : (enterE ks L id != 0) = true := by simpa using h0
      generalize enterE ks L id = r at *
      clear h0
      go_enter Tryz.func192, Tryz.ntmps192
      go_wp2_with (first | (go_at_call 63; refine (unhide HE).mono ?_; rintro e w1 ⟨rfl, hb⟩; have HB := hide hb; clear hb) | (go_at_call 89; refine ((unhide HF) w1 (unhide HB)).mono ?_; rintro e w' ⟨rfl, rfl⟩) | (go_at_call 48; refine ((unhide HM) w1 (unhide HB)).mono ?_; rintro e w' ⟨rfl, rfl⟩))
      go_ret
      exact ⟨rfl, unhide HB⟩
  · rw [if_neg hm, if_neg (by decide)]
    rw [findM_out hm] at HF
    generalize enterE ks L id = r at *
    clear hm
    go_enter Tryz.func192, Tryz.ntmps192
    go_wp2_with (first | (go_at_call 63; refine (unhide HE).mono ?_; rintro e w1 ⟨rfl, hb⟩; have HB := hide hb; clear hb) | (go_at_call 89; refine ((unhide HF) w1 (unhide HB)).mono ?_; rintro e w' ⟨rfl, rfl⟩) | (go_at_call 48; refine ((unhide HM) w1 (unhide HB)).mono ?_; rintro e w' ⟨rfl, rfl⟩))
    go_ret
    exact ⟨rfl, unhide HB⟩

set_option maxHeartbeats 1000000 in
theorem snew_any (ha : ArK w base bA ks FA) (hb : base ≤ w.heap.size) : Calls Tryz.prog 23 #[.pointer (some ⟨bA, 0, none⟩)] w fun e w' =>
    ∃ bK F, e = .returned (.tuple #[.pointer (some ⟨bK, 0, none⟩), .int .i64 0]) ∧ (∀ el, StkS w' base bK bA el [] F) ∧ Below w.heap.size w w' ∧ ∀ k, F k → w.heap.size ≤ k := by
  have HL := hide (len_k ha)
  have hpos := ha.most.2
  have hz : ((ks.length : Int) == 0) = false := by rw [beq_eq_false_iff_ne]; omega
  have HB := hide hb
  generalize ks.length = n at *
  clear ha hb hpos
  go_enter Tryz.func23, Tryz.ntmps23
  go_wp2_with (go_at_call 12; refine (unhide HL).mono ?_; rintro e w1 ⟨rfl, rfl⟩)
  go_ret2
  have hb := unhide HB
  have e1 := heap_alloc_new w (.cells #[.slice none 0 0] 139)
  have e2 := heap_alloc_new (w.alloc (.cells #[.slice none 0 0] 139)) (.cells #[] 188)
  have e3 := heap_alloc_new ((w.alloc (.cells #[.slice none 0 0] 139)).alloc (.cells #[] 188)) (.cells #[.slice (some ⟨w.heap.size + 1, 0, none⟩) 0 0] 140)
  have e4 := heap_alloc_new (((w.alloc (.cells #[.slice none 0 0] 139)).alloc (.cells #[] 188)).alloc (.cells #[.slice (some ⟨w.heap.size + 1, 0, none⟩) 0 0] 140)) (.cells #[.pointer (some ⟨bA, 0, none⟩), .pointer (some ⟨w.heap.size, 0, none⟩), .pointer (some ⟨w.heap.size + 1 + 1, 0, none⟩)] 114)
  simp only [World.size_alloc] at e2 e3 e4
  have u1 : ∀ (o2 o3 o4 : Obj), ((((w.alloc (.cells #[.slice none 0 0] 139)).alloc o2).alloc o3).alloc o4).heap[w.heap.size]? = some (.cells #[.slice none 0 0] 139 (0, 0)) := fun o2 o3 o4 => (Below.heap_alloc _ _ _ (by simp only [World.size_alloc]; omega)).trans ((Below.heap_alloc _ _ _ (by simp only [World.size_alloc]; omega)).trans ((Below.heap_alloc _ _ _ (by simp only [World.size_alloc]; omega)).trans e1))
  have u2 : ∀ (o3 o4 : Obj), ((((w.alloc (.cells #[.slice none 0 0] 139)).alloc (.cells #[] 188)).alloc o3).alloc o4).heap[w.heap.size + 1]? = some (.cells #[] 188 (0, 0)) := fun o3 o4 => (Below.heap_alloc _ _ _ (by simp only [World.size_alloc]; omega)).trans ((Below.heap_alloc _ _ _ (by simp only [World.size_alloc]; omega)).trans e2)
  have u3 : ∀ (o4 : Obj), ((((w.alloc (.cells #[.slice none 0 0] 139)).alloc (.cells #[] 188)).alloc (.cells #[.slice (some ⟨w.heap.size + 1, 0, none⟩) 0 0] 140)).alloc o4).heap[w.heap.size + 1 + 1]? = some (.cells #[.slice (some ⟨w.heap.size + 1, 0, none⟩) 0 0] 140 (0, 0)) := fun o4 => (Below.heap_alloc _ _ _ (by simp only [World.size_alloc]; omega)).trans e3
  refine ⟨w.heap.size + 1 + 1 + 1, footS (w.heap.size + 1 + 1 + 1) w.heap.size (w.heap.size + 1 + 1) ⟨none, 0, []⟩ (.slice (some ⟨w.heap.size + 1, 0, none⟩) 0 0), rfl, fun el => ⟨w.heap.size, w.heap.size + 1 + 1, ⟨none, 0, []⟩, _, [], ⟨e4, ⟨u1 _ _ _, PartAt.nil _ _ _, hb⟩, ⟨u3 _, ⟨rfl, .inr ⟨_, _, #[], rfl, by omega, u2 _ _, Nat.zero_le _, by simp, rfl, rfl⟩⟩, by omega⟩, ?_, by omega⟩, Coh.nil el, rfl, fun k => Iff.rfl⟩, (((below_new w _).alloc (by simp only [World.size_alloc]; omega) _).alloc (by simp only [World.size_alloc]; omega) _).alloc (by simp only [World.size_alloc]; omega) _, ?_⟩
  · rintro k (rfl | hk) (e | e)
    · omega
    · simp only [Value.ownBlock, Option.some.injEq] at e; omega
    · simp [PartM.own] at hk
    · simp [PartM.own] at hk
  · rintro k (rfl | (rfl | hk) | (rfl | hk))
    · omega
    · omega
    · simp [PartM.own] at hk
    · omega
    · simp only [Value.ownBlock, Option.some.injEq] at hk; omega
end
end Go.Proofs.YtkakncngkmoegaaGreat

namespace Go.Proofs.YtkakncngkmoegaaGreat
open Go.ChangeShapes Go.WideShapes Go.ChangeAt Go.RowKit

/-- A call of the script. -/
structure OpM where
  what : Int
  a : Int
  old : Int
  n : Int
  text : ByteArray

structure ElsIn (w : World) (a : Option Addr) (l : List Cal) : Prop where
  cells : ∀ (i : Nat) x, l[i]? = some x → ∃ b off, a = some ⟨b, off, none⟩ ∧ w.cell? ⟨b, off + i * 2, none⟩ = some (.int .i64 x.space) ∧ w.cell? ⟨b, off + i * 2 + 1, none⟩ = some (.string x.name)
structure OpsIn (w : World) (a : Option Addr) (l : List OpM) : Prop where
  cells : ∀ (i : Nat) x, l[i]? = some x → ∃ b off, a = some ⟨b, off, none⟩ ∧ w.cell? ⟨b, off + i * 5, none⟩ = some (.int .i64 x.what) ∧ w.cell? ⟨b, off + i * 5 + 1, none⟩ = some (.int .i64 x.a) ∧ w.cell? ⟨b, off + i * 5 + 2, none⟩ = some (.int .i64 x.old) ∧ w.cell? ⟨b, off + i * 5 + 3, none⟩ = some (.int .i64 x.n) ∧ w.cell? ⟨b, off + i * 5 + 4, none⟩ = some (.string x.text)
theorem ElsIn.below {w w' : World} {a : Option Addr} {l : List Cal} (h : ElsIn w a l) (hb : Below w.heap.size w w') : ElsIn w' a l := by
  refine ⟨fun i x hi => ?_⟩
  obtain ⟨b, off, e, c0, c1⟩ := h.cells i x hi
  have hlt : b < w.heap.size := World.block_lt_of_cell? w _ c0
  exact ⟨b, off, e, (hb.cell (p := ⟨b, off + i * 2, none⟩) hlt).trans c0, (hb.cell (p := ⟨b, off + i * 2 + 1, none⟩) hlt).trans c1⟩
theorem OpsIn.below {w w' : World} {a : Option Addr} {l : List OpM} (h : OpsIn w a l) (hb : Below w.heap.size w w') : OpsIn w' a l := by
  refine ⟨fun i x hi => ?_⟩
  obtain ⟨b, off, e, c0, c1, c2, c3, c4⟩ := h.cells i x hi
  have hlt : b < w.heap.size := World.block_lt_of_cell? w _ c0
  exact ⟨b, off, e, (hb.cell (p := ⟨b, off + i * 5, none⟩) hlt).trans c0, (hb.cell (p := ⟨b, off + i * 5 + 1, none⟩) hlt).trans c1, (hb.cell (p := ⟨b, off + i * 5 + 2, none⟩) hlt).trans c2, (hb.cell (p := ⟨b, off + i * 5 + 3, none⟩) hlt).trans c3, (hb.cell (p := ⟨b, off + i * 5 + 4, none⟩) hlt).trans c4⟩

theorem laidOut : laidOutB Tryz.prog = true := by kernel_rfl
theorem list2 {α : Type} (l : List α) (h : l.length = 2) : ∃ a b, l = [a, b] := by
  match l, h with
  | [a, b], _ => exact ⟨a, b, rfl⟩
theorem list5 {α : Type} (l : List α) (h : l.length = 5) : ∃ a b c d e, l = [a, b, c, d, e] := by
  match l, h with
  | [a, b, c, d, e], _ => exact ⟨a, b, c, d, e, rfl⟩

section
variable {H : Type} {enc : TypeId × Value → H} {W : World} {spare : Nat → Bool} {held : Bool}

theorem addr_plain {x : Addr} {v : Value} (h : W.cell? (x.add 0) = some v) : ∃ b off, x = ⟨b, off, none⟩ := by
  obtain ⟨b, off, spot⟩ := x
  have hspot : spot = none := by simpa [Addr.add] using World.cell?_spot h
  exact ⟨b, off, by rw [hspot]⟩

theorem cells_get {x : Addr} {n : Nat} {cs : List Value} (h : W.cells? 0 x n = some cs) (j : Nat) (v : Value) (hj : cs[j]? = some v) : W.cell? (x.add j) = some v := by
  obtain ⟨_, hlen, hc⟩ := World.cells?_some h
  have hlt : j < cs.length := (List.getElem?_eq_some_iff.1 hj).1
  simp only [World.cells?, Nat.zero_le, if_true] at h
  have hjn : j < n := by omega
  have := mapM_some_get h j j (by simp [hjn])
  rw [this, hj]

end
end Go.Proofs.YtkakncngkmoegaaGreat

namespace Go.Proofs.YtkakncngkmoegaaGreat
open Go.RowKit Go.Great

theorem setRow_new (w : World) (a b : Array Value) (t : TypeId) : (w.alloc (.cells a t)).setRow w.heap.size b = w.alloc (.cells b t) := by
  unfold World.setRow World.alloc
  simp only
  congr 1
  apply Array.ext_getElem?
  intro i
  rw [Array.getElem?_modify]
  by_cases h : w.heap.size = i
  · subst h
    simp
  · rw [if_neg h]
    rw [Array.getElem?_push, Array.getElem?_push, if_neg (fun e => h e.symm), if_neg (fun e => h e.symm)]

set_option maxHeartbeats 4000000 in
theorem isSpecial_any (c : Cal) (w : World) : Calls Tryz.prog 156 #[c.agg] w fun e w' => e = .returned (.bool (specialM c)) ∧ Below w.heap.size w w' := by
  have h1 : TabAt ((w.alloc (.cells #[.int .i64 c.space, .string c.name] 185)).alloc (.cells (sRow specT) 229)) (w.heap.size + 1) specT := by
    have h := tab_new (w.alloc (.cells #[.int .i64 c.space, .string c.name] 185)) specT 229
    rw [World.size_alloc] at h
    exact h
  have hb3 : Below w.heap.size w ((w.alloc (.cells #[.int .i64 c.space, .string c.name] 185)).alloc (.cells (sRow specT) 229)) := below2 _ _ _
  have hbx : ((w.alloc (.cells #[.int .i64 c.space, .string c.name] 185)).alloc (.cells (sRow specT) 229)).cell? ⟨w.heap.size, 0, none⟩ = some (.int .i64 c.space) ∧ ((w.alloc (.cells #[.int .i64 c.space, .string c.name] 185)).alloc (.cells (sRow specT) 229)).cell? ⟨w.heap.size, 1, none⟩ = some (.string c.name) := first_cells w _ _ _ _ (below_new _ _)
  have hsz : ((w.alloc (.cells #[.int .i64 c.space, .string c.name] 185)).alloc (.cells (sRow specT) 229)).heap.size = w.heap.size + 2 := by simp
  unfold specialM
  generalize hW : ((w.alloc (.cells #[.int .i64 c.space, .string c.name] 185)).alloc (.cells (sRow specT) 229)) = W at *
  have HA1 : Hid (∀ w1, Below W.heap.size W w1 → Calls Tryz.prog 186 #[c.agg, .int .i64 0, .slice (some ⟨w.heap.size + 1, 0, none⟩) 83 83] w1 fun e w' => e = .returned (.bool (amongM c 0 specT)) ∧ Below W.heap.size W w') := hide (fun w1 hb => by
    refine (isAmong_any c 0 specT (by decide) (w.heap.size + 1) w1 (h1.below hb)).mono ?_
    rintro e w' ⟨rfl, hb2⟩
    exact ⟨rfl, hb.trans (hb2.mono hb.size)⟩)
  have HA2 : Hid (∀ w1, Below W.heap.size W w1 → Calls Tryz.prog 187 #[c.agg] w1 fun e w' => e = .returned (.bool (foreignM c)) ∧ Below W.heap.size W w') := hide (fun w1 hb => by
    refine (isForeign_any c w1).mono ?_
    rintro e w' ⟨rfl, hb2⟩
    exact ⟨rfl, hb.trans (hb2.mono hb.size)⟩)
  have HBX : Hid (∀ w1, Below W.heap.size W w1 → w1.cell? ⟨w.heap.size, 0, none⟩ = some (.int .i64 c.space) ∧ w1.cell? ⟨w.heap.size, 1, none⟩ = some (.string c.name)) := hide (fun w1 hb => ⟨(hb.cell (p := ⟨w.heap.size, 0, none⟩) (show w.heap.size < W.heap.size by omega)).trans hbx.1, (hb.cell (p := ⟨w.heap.size, 1, none⟩) (show w.heap.size < W.heap.size by omega)).trans hbx.2⟩)
  have HWW := hide hW
  have HB3 := hide hb3
  generalize amongM c 0 specT = r1 at *
  generalize foreignM c = r2 at *
  obtain ⟨cs, cn⟩ := c
  simp only [Cal.agg] at *
  obtain ⟨hx0, hx1⟩ := hbx
  clear h1 hb3 hsz hW
  have hund : undef = Value.tuple #[] := rfl
  cases r1 with
  | true =>
    go_enter Tryz.func156, Tryz.ntmps156
    apply wp_seq_k; intro K0 hK0
    have HK0 := hide hK0
    clear hK0
    go_wp2
    refine (unhide HK0) _ _ ?_
    apply wp_seq_k; intro K1 hK1
    apply wp_region_lit
    have hsz : (w.alloc (.cells #[.int .i64 cs, .string cn] 185)).heap.size = w.heap.size + 1 := by simp
    have hnew := heap_alloc_new (w.alloc (.cells #[.int .i64 cs, .string cn] 185)) (.cells Tryz.zeroCells229 229)
    rw [hsz] at hnew
    have hrow := setRow_new (w.alloc (.cells #[.int .i64 cs, .string cn] 185)) Tryz.zeroCells229 (sRow specT) 229
    rw [hsz] at hrow
    refine wpList_buildTo rfl 229 _ rfl (some 4) rfl (sRow specT) (by kernel_rfl) ?_
    refine wpList_allocTo rfl (some 3) rfl (.pointer (some ⟨w.heap.size + 1, 0, none⟩)) (.cells Tryz.zeroCells229 229) ?_ ?_
    · unfold execOp
      simp [go_sem, hsz]
    refine wpList_store_rowTo rfl 229 _ _ rfl rfl (w.heap.size + 1) (sRow specT) rfl rfl 229 Tryz.zeroCells229 hnew (by kernel_rfl) (by kernel_rfl) (by kernel_rfl) ?_
    rw [hrow]
    apply wpList_nil
    refine hK1 _ _ ?_
    clear hsz hnew hrow
    apply wp_seq_k; intro K2 hK2
    refine (show Code.wp Tryz.prog _ _ _ ((w.alloc (.cells #[.int .i64 cs, .string cn] 185)).alloc (.cells (sRow specT) 229)) from ?_)
    rw [unhide HWW]
    first | go_region_with (go_at_call 186; refine ((unhide HA1) _ (by first | exact Below.refl _ _ | exact (Below.refl _ _).drew | exact below_dn (Below.refl _ _) _ | exact (Below.refl _ _).drew.drew)).mono ?_; rintro e w2 ⟨rfl, hb⟩; have HB := hide hb; obtain ⟨hy0, hy1⟩ := (unhide HBX) _ hb; clear hb) | fail
    all_goals go_wp2
    all_goals go_ret
    all_goals exact ⟨rfl, (unhide HB3).trans ((unhide HB).mono (unhide HB3).size)⟩
  | false =>
    go_enter Tryz.func156, Tryz.ntmps156
    apply wp_seq_k; intro K0 hK0
    have HK0 := hide hK0
    clear hK0
    go_wp2
    refine (unhide HK0) _ _ ?_
    apply wp_seq_k; intro K1 hK1
    apply wp_region_lit
    have hsz : (w.alloc (.cells #[.int .i64 cs, .string cn] 185)).heap.size = w.heap.size + 1 := by simp
    have hnew := heap_alloc_new (w.alloc (.cells #[.int .i64 cs, .string cn] 185)) (.cells Tryz.zeroCells229 229)
    rw [hsz] at hnew
    have hrow := setRow_new (w.alloc (.cells #[.int .i64 cs, .string cn] 185)) Tryz.zeroCells229 (sRow specT) 229
    rw [hsz] at hrow
    refine wpList_buildTo rfl 229 _ rfl (some 4) rfl (sRow specT) (by kernel_rfl) ?_
    refine wpList_allocTo rfl (some 3) rfl (.pointer (some ⟨w.heap.size + 1, 0, none⟩)) (.cells Tryz.zeroCells229 229) ?_ ?_
    · unfold execOp
      simp [go_sem, hsz]
    refine wpList_store_rowTo rfl 229 _ _ rfl rfl (w.heap.size + 1) (sRow specT) rfl rfl 229 Tryz.zeroCells229 hnew (by kernel_rfl) (by kernel_rfl) (by kernel_rfl) ?_
    rw [hrow]
    apply wpList_nil
    refine hK1 _ _ ?_
    clear hsz hnew hrow
    apply wp_seq_k; intro K2 hK2
    refine (show Code.wp Tryz.prog _ _ _ ((w.alloc (.cells #[.int .i64 cs, .string cn] 185)).alloc (.cells (sRow specT) 229)) from ?_)
    rw [unhide HWW]
    first | go_region_with (first | (go_at_call 187; refine ((unhide HA2) _ (by first | exact unhide HB | exact (unhide HB).drew | exact below_dn (unhide HB) _ | exact (unhide HB).drew.drew)).mono ?_; rintro e w3 ⟨rfl, hb⟩; have HB2 := hide hb; clear hb) | (go_at_call 186; refine ((unhide HA1) _ (by first | exact Below.refl _ _ | exact (Below.refl _ _).drew | exact below_dn (Below.refl _ _) _ | exact (Below.refl _ _).drew.drew)).mono ?_; rintro e w2 ⟨rfl, hb⟩; have HB := hide hb; obtain ⟨hy0, hy1⟩ := (unhide HBX) _ hb; clear hb)) | fail
    all_goals go_wp2
    all_goals go_ret
    all_goals exact ⟨rfl, (unhide HB3).trans ((unhide HB2).mono (unhide HB3).size)⟩
end Go.Proofs.YtkakncngkmoegaaGreat

namespace Go.Proofs.YtkakncngkmoegaaGreat
open Go.RowKit

/-- From the n-th on downwards: does what is wanted come ahead of every border? -/
def reachI (want bord : Int → Bool) (L : List Int) : Nat → Bool
  | 0 => false
  | n + 1 => match L[n]? with
    | some x => if want x then true else if bord x then false else reachI want bord L n
    | none => false

section
variable {w w1 : World} {base bK bA : Nat} {ks : List Key} {el : Int → Option Cal} {L : List Int} {F FA : Nat → Prop}

theorem UpdS.mod' (h : UpdS F w w1 base bK bA el L) : Mod F w w1 := by
  obtain ⟨F', _, hm, _⟩ := h
  exact hm
theorem known_bord (ks : List Key) (id : Int) (k : Nat) (hk : k < 5) : (#[.int .i64 (calOf ks id).space, .string (calOf ks id).name, .bool (borK ks id 0), .bool (borK ks id 1), .bool (borK ks id 2), .bool (borK ks id 3), .bool (borK ks id 4), .bool (elOf ks id).isSome] : Array Value)[2 + k]? = some (.bool (borK ks id (k : Int))) := by
  rcases k with _ | _ | _ | _ | _ | k
  · rfl
  · rfl
  · rfl
  · rfl
  · rfl
  · omega
theorem borK_in {ks : List Key} {L : List Int} (hg : Good ks L) {x : Int} (hx : x ∈ L) (j : Int) : borK ks x j = borderM (calOf ks x) j := by
  unfold borK
  rw [hg.el x hx]
  rfl
theorem known_after {w w1 : World} {cs : Array Value} {t : TypeId} (hb : Below (w.alloc (.cells cs t)).heap.size (w.alloc (.cells cs t)) w1) (k : Nat) : w1.cell? ⟨w.heap.size, k, none⟩ = cs[k]? :=
  cell_row _ _ k _ _ _ ((hb.block w.heap.size (by simp)).trans (heap_alloc_new w _))

set_option maxHeartbeats 4000000 in
theorem reaches_any (K : Nat) (cs : Array Value) (eg : ∀ args w, (callFunc K args).run Tryz.prog w = .ok (.enter K args) w) (want : Int → Bool) (ha : ArK w base bA ks FA) (hs : StkS w base bK bA (elOf ks) L F) (hd : ∀ k, FA k → ¬ F k) (hg : Good ks L)
    (hw : ∀ id, id ∈ L → ∀ w1, Mod F w w1 → Calls Tryz.prog K (#[.int .i64 id, knownV ks id] ++ cs) w1 fun e w' => e = .returned (.bool (want id)) ∧ Below w1.heap.size w1 w')
    (kind : Int) (h0 : 0 ≤ kind) (h4 : kind ≤ 4) :
    Calls Tryz.prog 127 #[.pointer (some ⟨bK, 0, none⟩), .int .i64 kind, .func (.func K) #[] cs] w fun e w' =>
      e = .returned (.bool (reachI want (fun id => borderM (calOf ks id) kind) L L.length)) ∧ UpdS F w w' base bK bA (elOf ks) L := by
  have hl := (Live.mk' ha hs).few hg
  have HAR := hide ha
  have HD := hide hd
  have HG := hide hg
  have HW := hide hw
  have HS0 := hide hs.self
  have HLN := hide (slen_any hs)
  have hlz : (L.length : Int) ≤ 32768 := by omega
  obtain ⟨kk, rfl⟩ : ∃ kk : Nat, kind = (kk : Int) := ⟨kind.toNat, by omega⟩
  have hk1 : ¬ (kk : Int) < 0 := by omega
  have hk2 : ¬ 4 < (kk : Int) := by omega
  have hk3 : (0 : Int) ≤ (kk : Int) := by omega
  have hk5 : (kk : Int) < 5 := by omega
  have HK := hide (show kk < 5 by omega)
  clear ha hs hd hg hw hl h0 h4
  go_enter Tryz.func127, Tryz.ntmps127
  go_wp2_with (go_at_call 13; refine (unhide HLN).mono ?_; rintro e w1 ⟨rfl, rfl⟩)
  go_loopg [7, 8, 9, 10] L.length (fun g s7 _ _ _ wr => s7 = .int .i64 ((g : Int) - 1) ∧ g ≤ L.length ∧ UpdS F w wr base bK bA (elOf ks) L ∧ reachI want (fun id => borderM (calOf ks id) (kk : Int)) L L.length = reachI want (fun id => borderM (calOf ks id) (kk : Int)) L g)
  case atStart => exact ⟨rfl, Nat.le_refl _, unhide HS0, rfl⟩
  case round =>
    obtain ⟨rfl, hgl, hb, hrec⟩ := hrel
    have HB := hide hb
    have HR := hide hrec
    clear hrec
    cases gk with
    | zero =>
      clear hb
      go_wp2
      go_ret
      exact ⟨by rw [unhide HR]; rfl, unhide HB⟩
    | succ n =>
      obtain ⟨x, hx⟩ : ∃ x, L[n]? = some x := ⟨_, List.getElem?_eq_getElem (by omega)⟩
      have hxm : x ∈ L := List.mem_of_getElem? hx
      have e1 : (((n + 1 : Nat) : Int) - 1) = (n : Int) := by omega
      rw [e1]
      have HA : Hid (Calls Tryz.prog 15 #[.pointer (some ⟨bK, 0, none⟩), .int .i64 (n : Int)] wr fun e w' => e = .returned (.int .i64 x) ∧ wr = w') := hide (by
        have := hb.at (n : Int)
        rw [atM_in hx] at this
        exact this)
      have HLK := hide (hb.look ((unhide HAR).mod hb.mod' (unhide HD)) x)
      have HWX := hide ((unhide HW) x hxm)
      have HRC : Hid (reachI want (fun id => borderM (calOf ks id) (kk : Int)) L (n + 1) = if want x then true else if borderM (calOf ks x) (kk : Int) then false else reachI want (fun id => borderM (calOf ks id) (kk : Int)) L n) := hide (by rw [reachI, hx])
      rw [← borK_in (unhide HG) hxm] at HRC
      have HKB := hide (known_bord ks x kk (unhide HK))
      unfold knownV at HLK HWX
      generalize borK ks x (kk : Int) = bd at *
      generalize borK ks x 0 = b0 at *
      generalize borK ks x 1 = b1 at *
      generalize borK ks x 2 = b2 at *
      generalize borK ks x 3 = b3 at *
      generalize borK ks x 4 = b4 at *
      generalize (elOf ks x).isSome = ok at *
      generalize hcal : calOf ks x = c at *
      obtain ⟨cs', cn'⟩ := c
      simp only at HLK HWX HKB
      have hn0 : (0 : Int) ≤ (n : Int) := by omega
      have hnz : (n : Int) ≤ 32768 := by omega
      clear hb hx hxm e1 hcal
      go_wp2_with (first | (go_at_call 15; refine (unhide HA).mono ?_; rintro e w1 ⟨rfl, rfl⟩) | (go_at_call 144; refine (unhide HLK).mono ?_; rintro e w2 ⟨rfl, hu⟩; have HB3 := hide (hu.then (below_new w2 (.cells #[.int .i64 cs', .string cn', .bool b0, .bool b1, .bool b2, .bool b3, .bool b4, .bool ok] 188))); clear hu))
      refine ((unhide HWX) _ (unhide HB3).mod').mono ?_
      rintro e w3 ⟨rfl, hb3⟩
      have y0 := (known_after hb3 (2 + kk)).trans (unhide HKB)
      have HB4 := hide ((unhide HB3).then hb3)
      clear hb3
      cases hwx : want x with
      | true =>
        rw [hwx] at HRC
        go_wp2
        go_ret
        exact ⟨by rw [unhide HR, unhide HRC]; rfl, unhide HB4⟩
      | false =>
        rw [hwx] at HRC
        cases bd with
        | true =>
          go_wp2
          go_ret
          exact ⟨by rw [unhide HR, unhide HRC]; rfl, unhide HB4⟩
        | false =>
          go_wp2
          go_roundg n
          case measure => omega
          case rel => exact ⟨by go_num, by omega, unhide HB4, (unhide HR).trans (unhide HRC)⟩
theorem node_1 (c : Cal) {b0 b1 b2 b3 b4 ok : Bool} (n id : Int) (b : Nat) (w : World) (hc : w.cell? ⟨b, 0, none⟩ = some (.int .i64 n)) : Calls Tryz.prog 128 #[.int .i64 id, .agg #[.int .i64 c.space, .string c.name, .bool b0, .bool b1, .bool b2, .bool b3, .bool b4, .bool ok], .pointer (some ⟨b, 0, none⟩)] w fun e w' => e = .returned (.bool (id == n)) ∧ Below w.heap.size w w' := by
  have hlt : b < w.heap.size := World.block_lt_of_cell? w _ hc
  obtain ⟨cs, cn⟩ := c
  simp only at *
  go_enter Tryz.func128, Tryz.ntmps128
  go_wp2
  go_ret
  exact ⟨rfl, below_new _ _⟩

/-- Is an element of that name in the scope? -/
def scopeM (ks : List Key) (L : List Int) (name : ByteArray) (kind : Int) : Bool := if kind < 0 ∨ 4 < kind then false else reachI (fun id => namedM (calOf ks id) name) (fun id => borderM (calOf ks id) kind) L L.length
def nodeScopeM (ks : List Key) (L : List Int) (id kind : Int) : Bool := if kind < 0 ∨ 4 < kind then false else reachI (fun x => x == id) (fun id => borderM (calOf ks id) kind) L L.length

theorem reaches_no (v : Value) (kind : Int) (hk : kind < 0 ∨ 4 < kind) (w : World) : Calls Tryz.prog 127 #[.pointer (some ⟨bK, 0, none⟩), .int .i64 kind, v] w fun e w' => e = .returned (.bool false) ∧ w = w' := by
  by_cases h : kind < 0
  · clear hk
    go_enter Tryz.func127, Tryz.ntmps127
    go_wp2
    go_ret
    exact ⟨rfl, rfl⟩
  · have h4 : 4 < kind := by omega
    clear hk
    go_enter Tryz.func127, Tryz.ntmps127
    go_wp2
    go_ret
    exact ⟨rfl, rfl⟩

theorem enters128 : ∀ args w, (callFunc 128 args).run Tryz.prog w = .ok (.enter 128 args) w := enters_of Tryz.func128 (by kernel_rfl) rfl
theorem cell_after {w w1 : World} {v : Value} {t : TypeId} (hb : Below (w.alloc (.cells #[v] t)).heap.size (w.alloc (.cells #[v] t)) w1) : w1.cell? ⟨w.heap.size, 0, none⟩ = some v :=
  cell_of_one ((hb.block w.heap.size (by simp)).trans (heap_alloc_new w _))

set_option maxHeartbeats 1000000 in
theorem nodeScope_any (ha : ArK w base bA ks FA) (hs : StkS w base bK bA (elOf ks) L F) (hd : ∀ k, FA k → ¬ F k) (hg : Good ks L) (id : Int) (kind : Int) : Calls Tryz.prog 91 #[.pointer (some ⟨bK, 0, none⟩), .int .i64 id, .int .i64 kind] w fun e w' => e = .returned (.bool (nodeScopeM ks L id kind)) ∧ UpdS F w w' base bK bA (elOf ks) L := by
  have HC : Hid (Calls Tryz.prog 127 #[.pointer (some ⟨bK, 0, none⟩), .int .i64 kind, .func (.func 128) #[] #[.pointer (some ⟨w.heap.size, 0, none⟩)]] (w.alloc (.cells #[.int .i64 id] 3)) fun e w' => e = .returned (.bool (nodeScopeM ks L id kind)) ∧ UpdS F w w' base bK bA (elOf ks) L) := hide (by
    unfold nodeScopeM
    by_cases hk : kind < 0 ∨ 4 < kind
    · rw [if_pos hk]
      exact (reaches_no _ kind hk _).mono fun e w' ⟨a, b⟩ => ⟨a, b ▸ hs.self.then (below_new _ _)⟩
    · rw [if_neg hk]
      refine (reaches_any 128 _ enters128 (fun x => x == id) (ha.below (below_new _ _)) (hs.below (below_new _ _)) hd hg (fun x _ w1 hm => ?_) kind (by omega) (by omega)).mono ?_
      · exact node_1 (calOf ks x) id x w.heap.size w1 (cell_of_one ((hm.block w.heap.size (by simp) (fun hF => by have := (hs.lt hF).2; omega)).trans (heap_alloc_new w _)))
      · rintro e w' ⟨rfl, hb⟩
        exact ⟨rfl, UpdS.after (below_new _ _) hb⟩)
  generalize nodeScopeM ks L id kind = r at *
  clear ha hs hd hg
  go_enter Tryz.func91, Tryz.ntmps91
  go_wp2_with (go_at_call 127; refine (unhide HC).mono ?_; rintro e w1 ⟨rfl, hb⟩)
  go_ret
  exact ⟨rfl, hb⟩

def specM (ks : List Key) (id : Int) : Bool := (elOf ks id).isSome && specialM (calOf ks id)
theorem sspecial_any (ha : ArK w base bA ks FA) (hs : StkS w base bK bA (elOf ks) L F) (id : Int) : Calls Tryz.prog 129 #[.pointer (some ⟨bK, 0, none⟩), .int .i64 id] w fun e w' => e = .returned (.bool (specM ks id)) ∧ UpdS F w w' base bK bA (elOf ks) L := by
  have HLK := hide (look_any ha hs id)
  have HS : Hid (∀ w1, Calls Tryz.prog 156 #[.agg #[.int .i64 (calOf ks id).space, .string (calOf ks id).name]] w1 fun e w' => e = .returned (.bool (specialM (calOf ks id))) ∧ Below w1.heap.size w1 w') := hide (fun w1 => isSpecial_any (calOf ks id) w1)
  unfold specM
  unfold knownV at HLK
  generalize borK ks id 0 = b0 at *
  generalize borK ks id 1 = b1 at *
  generalize borK ks id 2 = b2 at *
  generalize borK ks id 3 = b3 at *
  generalize borK ks id 4 = b4 at *
  generalize calOf ks id = c at *
  generalize (elOf ks id).isSome = ok at *
  generalize specialM c = r at *
  obtain ⟨cs, cn⟩ := c
  simp only at *
  clear ha hs
  cases ok with
  | true =>
    go_enter Tryz.func129, Tryz.ntmps129
    go_wp2_with (first | (go_at_call 144; refine (unhide HLK).mono ?_; rintro e w1 ⟨rfl, hb⟩; have HB1 := hide (hb.then (below_new w1 (.cells #[.int .i64 cs, .string cn, .bool b0, .bool b1, .bool b2, .bool b3, .bool b4, .bool true] 188))); clear hb) | (go_at_call 156; refine ((unhide HS) _).mono ?_; rintro e w2 ⟨rfl, hb⟩; have HB2 := hide ((unhide HB1).then hb); clear hb))
    go_ret
    exact ⟨rfl, unhide HB2⟩
  | false =>
    go_enter Tryz.func129, Tryz.ntmps129
    go_wp2_with (go_at_call 144; refine (unhide HLK).mono ?_; rintro e w1 ⟨rfl, hb⟩; have HB1 := hide (hb.then (below_new w1 (.cells #[.int .i64 cs, .string cn, .bool b0, .bool b1, .bool b2, .bool b3, .bool b4, .bool false] 188))); clear hb)
    go_ret
    exact ⟨rfl, unhide HB1⟩
end
end Go.Proofs.YtkakncngkmoegaaGreat

namespace Go.Proofs.YtkakncngkmoegaaGreat
open Go.RowKit

/-- The last place under n at which p holds. -/
def lastI (p : Int → Bool) (L : List Int) : Nat → Option Nat
  | 0 => none
  | n + 1 => match L[n]? with
    | some x => if p x then some n else lastI p L n
    | none => none
theorem lastI_lt {p : Int → Bool} {L : List Int} : ∀ {n i : Nat}, lastI p L n = some i → i < n ∧ ∃ x, L[i]? = some x ∧ p x = true
  | 0, i, h => by simp [lastI] at h
  | n + 1, i, h => by
    rw [lastI] at h
    cases hx : L[n]? with
    | none => rw [hx] at h; cases h
    | some x =>
      rw [hx] at h
      simp only at h
      split at h
      · cases h
        exact ⟨by omega, x, hx, by assumption⟩
      · obtain ⟨h1, h2⟩ := lastI_lt h
        exact ⟨by omega, h2⟩

def popToI (ks : List Key) (L : List Int) (name : ByteArray) : Option Nat := lastI (fun id => namedM (calOf ks id) name) L L.length
def popToL (ks : List Key) (L : List Int) (name : ByteArray) : List Int := match popToI ks L name with
  | some i => L.take i
  | none => L

/-- How many stay, of the first n. -/
def leaveN (p : Int → Bool) (L : List Int) : Nat → Nat
  | 0 => 0
  | n + 1 => match L[n]? with
    | some x => if p x then leaveN p L n else n + 1
    | none => n + 1
theorem leaveN_le (p : Int → Bool) (L : List Int) : ∀ n, leaveN p L n ≤ n
  | 0 => Nat.le_refl _
  | n + 1 => by
    rw [leaveN]
    have := leaveN_le p L n
    split
    · split <;> omega
    · omega

def impM (c : Cal) (but : ByteArray) : Bool := amongM c 0 impT && !namedM c but
def thorM (c : Cal) : Bool := amongM c 0 impT || amongM c 0 partT

/-- How many stay behind Implied, behind Thorough. -/
def impN (ks : List Key) (L : List Int) (but : ByteArray) : Nat := leaveN (fun id => impM (calOf ks id) but) L L.length
def thorN (ks : List Key) (L : List Int) : Nat := leaveN (fun id => thorM (calOf ks id)) L L.length

end Go.Proofs.YtkakncngkmoegaaGreat
