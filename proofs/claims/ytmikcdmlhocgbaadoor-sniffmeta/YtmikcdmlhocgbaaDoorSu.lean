/-
  Package sniff's step, where a tag is next.
-/
import Derived.Test.YtmikcdmlhocgbaaDoorSs
namespace Go.Proofs.YtmikcdmlhocgbaaDoor
open Go.RowKit Go.Lib Go.Shelf
attribute [local go_sem] Oper.semAt_some
section
variable {w : World} {b k : Nat} {t : ByteArray}

set_option maxHeartbeats 2000000 in
theorem step_meta {S : ByteArray → Bool} {A : Bool} {L : Int → Bool} (h : Sc w b t k) (hk : k + 5 ≤ t.size) (hs : Small t) (hA : Asks b k t S A L) (h1 : S ⟨#[60, 33, 45, 45]⟩ = false) (h2 : S ⟨#[60, 109, 101, 116, 97]⟩ = true) (h2a : A = true) :
    Calls Tryd.prog 21 #[.pointer (some ⟨b, 0, none⟩)] w fun e w' => e = .returned (.tuple #[.int .i64 (toldM (stC (attrsM t.data.toList (k + 5)).1).1).1, .bool (toldM (stC (attrsM t.data.toList (k + 5)).1).1).2]) ∧ Gone w w' b t (attrsM t.data.toList (k + 5)).2 := by
  obtain ⟨c0, c1, cf⟩ := h.cells
  have cf1 := cf 1
  have hw : IntKind.i64.wrap ((k : Int) + 5) = (k : Int) + 5 := by unfold Small at hs; exact wrap_add k 5 (by omega) (by omega)
  have HA := hide hA
  have HSC := hide h
  have HM : Hid (∀ W, Sc W b t k → Calls Tryd.prog 41 #[.pointer (some ⟨b, 0, none⟩)] (W.setCell ⟨b, 1, none⟩ (.int .i64 ((k : Int) + 5))) fun e w' => e = .returned (.tuple #[.int .i64 (toldM (stC (attrsM t.data.toList (k + 5)).1).1).1, .bool (toldM (stC (attrsM t.data.toList (k + 5)).1).1).2]) ∧ Gone (W.setCell ⟨b, 1, none⟩ (.int .i64 ((k : Int) + 5))) w' b t (attrsM t.data.toList (k + 5)).2) :=
    hide (fun W hW => callsIn_wide.1 (meta_in 4 (Nat.le_refl _) b t hs (k + 5) hk _ (hW.set (k + 5))))
  generalize (toldM (stC (attrsM t.data.toList (k + 5)).1).1).1 = q1 at HM ⊢
  generalize (toldM (stC (attrsM t.data.toList (k + 5)).1).1).2 = q2 at HM ⊢
  generalize (attrsM t.data.toList (k + 5)).2 = q at HM ⊢
  clear h hk hs cf hA
  go_enter Tryd.func21, Tryd.ntmps21
  go_wp2_with (first
      | (go_at_call 32; refine ((unhide HA).sees _ _ (by exact unhide HSC) (by decide) (by decide)).mono ?_; rintro e w1 ⟨rfl, m, rfl⟩)
      | (go_at_call 40; refine ((unhide HA).among _ (by exact unhide HSC)).mono ?_; rintro e w1 ⟨rfl, rfl⟩)
      | (go_at_call 42; refine ((unhide HA).letter _ _ (by decide) (by exact unhide HSC)).mono ?_; rintro e w1 ⟨rfl, rfl⟩)
      | (go_at_call 41; refine ((unhide HM) _ (by exact unhide HSC)).mono ?_; rintro e w2 ⟨rfl, hg⟩))
  go_ret2
  exact ⟨rfl, gone_set hg⟩

set_option maxHeartbeats 2000000 in
theorem step_tagFY {S : ByteArray → Bool} {A : Bool} {L : Int → Bool} (h : Sc w b t k) (hk : k < t.size) (hs : Small t) (hA : Asks b k t S A L) (h1 : S ⟨#[60, 33, 45, 45]⟩ = false) (h2 : S ⟨#[60, 109, 101, 116, 97]⟩ = false) (h3 : S ⟨#[60]⟩ = true) (h3a : L 1 = true) :
    CallsIn Fence.wide 4 Tryd.prog 21 #[.pointer (some ⟨b, 0, none⟩)] w fun e w' => e = .returned (.tuple #[.int .i64 0, .bool false]) ∧ Gone w w' b t (attrsM t.data.toList (passP wordP t.data.toList k)).2 := by
  have HA := hide hA
  have HSC := hide h
  have HS := hide hs
  have HBW := hide h.lt
  have hle := passP_le (p := wordP) (l := t.data.toList) (k := k) (by rw [len_data]; omega)
  rw [len_data] at hle
  have HP : Hid (∀ W, Sc W b t k → Calls Tryd.prog 30 #[.pointer (some ⟨b, 0, none⟩), .func (.func 43) #[.pointer (some ⟨b, 0, none⟩)] #[]] W fun e w' => e = .returned (.tuple #[]) ∧ Sc w' b t (passP wordP t.data.toList k) ∧ Mod (· = b) W w') := hide (fun W hW => passWord hW hs (Nat.le_of_lt hk))
  generalize passP wordP t.data.toList k = k0 at HP hle ⊢
  have HK := hide hle.2
  clear h hk hs hA hle
  refine callsIn_of_wp_marks Tryd.func21 rfl trivial ?_ rfl
  simp only [Tryd.ntmps21, List.size_toArray, List.length_cons, List.length_nil, Nat.reduceAdd, Nat.reduceSub, Array.replicate_succ, Array.replicate_zero, List.push_toArray, List.append_toArray, List.nil_append, List.cons_append]
  gi_wp2_with (first
      | (refine wpIn_cond_split (t := true) rfl (fun _ => ?_) (fun h => by cases h))
      | (refine wpIn_cond_split (t := false) rfl (fun h => by cases h) (fun _ => ?_))
      | (refine ⟨trivial, ?_⟩; gi_at_call 32; refine (callsIn_wide.2 ((unhide HA).sees _ _ (by exact unhide HSC) (by decide) (by decide))).mono ?_; rintro e w1 ⟨rfl, m, rfl⟩; dsimp only; simp only [h1, h2, h3])
      | (refine ⟨trivial, ?_⟩; gi_at_call 42; refine (callsIn_wide.2 ((unhide HA).letter _ _ (by decide) (by exact unhide HSC))).mono ?_; rintro e w1 ⟨rfl, rfl⟩; dsimp only; simp only [h3a])
      | (refine ⟨trivial, ?_⟩; gi_at_call 30; refine (callsIn_wide.2 ((unhide HP) _ (by exact unhide HSC))).mono ?_; rintro e w2 ⟨rfl, hsc2, hmod2⟩; have HSC2 := hide hsc2; have HM2 := hide hmod2; clear hsc2 hmod2; dsimp only)
      | ((with_reducible refine And.intro ?_ ?_); exact trivial))
  refine tag_loop (unhide HS) (unhide HSC2) (unhide HK) rfl ?_
  intro D W' hD hg hK
  have HG := hide (gone_dn ⟨hg.sc, (unhide HM2).trans hg.mod⟩)
  have HD := hide (Nat.le_trans (unhide HM2).size hD)
  clear hg hD
  gi_wp2
  refine ⟨by simp, .inl ⟨_, _, rfl, run_takeDeferred hK, ?_⟩⟩
  refine ⟨_, results_tmp2 rfl _ _ _, rfl, ?_⟩
  have hg := unhide HG
  have hd := unhide HD
  have hbw := unhide HBW
  refine ⟨?_, hg.mod.os, hg.mod.tape, hg.mod.output, Nat.le_trans hg.mod.size (by simp [World.putObj]), fun k h1 h2 => ?_⟩
  · unfold Sc
    rw [World.putObj_heap_other (by simp at hd; omega)]
    exact hg.sc
  · rw [World.putObj_heap_other (by simp at hd; omega)]
    exact hg.mod.block k h1 h2

set_option maxHeartbeats 2000000 in
theorem step_tagFFY {S : ByteArray → Bool} {A : Bool} {L : Int → Bool} (h : Sc w b t k) (hk : k < t.size) (hs : Small t) (hA : Asks b k t S A L) (h1 : S ⟨#[60, 33, 45, 45]⟩ = false) (h2 : S ⟨#[60, 109, 101, 116, 97]⟩ = false) (h3 : S ⟨#[60]⟩ = false) (h4 : S ⟨#[60, 47]⟩ = true) (h4a : L 2 = true) :
    CallsIn Fence.wide 4 Tryd.prog 21 #[.pointer (some ⟨b, 0, none⟩)] w fun e w' => e = .returned (.tuple #[.int .i64 0, .bool false]) ∧ Gone w w' b t (attrsM t.data.toList (passP wordP t.data.toList k)).2 := by
  have HA := hide hA
  have HSC := hide h
  have HS := hide hs
  have HBW := hide h.lt
  have hle := passP_le (p := wordP) (l := t.data.toList) (k := k) (by rw [len_data]; omega)
  rw [len_data] at hle
  have HP : Hid (∀ W, Sc W b t k → Calls Tryd.prog 30 #[.pointer (some ⟨b, 0, none⟩), .func (.func 43) #[.pointer (some ⟨b, 0, none⟩)] #[]] W fun e w' => e = .returned (.tuple #[]) ∧ Sc w' b t (passP wordP t.data.toList k) ∧ Mod (· = b) W w') := hide (fun W hW => passWord hW hs (Nat.le_of_lt hk))
  generalize passP wordP t.data.toList k = k0 at HP hle ⊢
  have HK := hide hle.2
  clear h hk hs hA hle
  refine callsIn_of_wp_marks Tryd.func21 rfl trivial ?_ rfl
  simp only [Tryd.ntmps21, List.size_toArray, List.length_cons, List.length_nil, Nat.reduceAdd, Nat.reduceSub, Array.replicate_succ, Array.replicate_zero, List.push_toArray, List.append_toArray, List.nil_append, List.cons_append]
  gi_wp2_with (first
      | (refine wpIn_cond_split (t := true) rfl (fun _ => ?_) (fun h => by cases h))
      | (refine wpIn_cond_split (t := false) rfl (fun h => by cases h) (fun _ => ?_))
      | (refine ⟨trivial, ?_⟩; gi_at_call 32; refine (callsIn_wide.2 ((unhide HA).sees _ _ (by exact unhide HSC) (by decide) (by decide))).mono ?_; rintro e w1 ⟨rfl, m, rfl⟩; dsimp only; simp only [h1, h2, h3, h4])
      | (refine ⟨trivial, ?_⟩; gi_at_call 42; refine (callsIn_wide.2 ((unhide HA).letter _ _ (by decide) (by exact unhide HSC))).mono ?_; rintro e w1 ⟨rfl, rfl⟩; dsimp only; simp only [h4a])
      | (refine ⟨trivial, ?_⟩; gi_at_call 30; refine (callsIn_wide.2 ((unhide HP) _ (by exact unhide HSC))).mono ?_; rintro e w2 ⟨rfl, hsc2, hmod2⟩; have HSC2 := hide hsc2; have HM2 := hide hmod2; clear hsc2 hmod2; dsimp only)
      | ((with_reducible refine And.intro ?_ ?_); exact trivial))
  refine tag_loop (unhide HS) (unhide HSC2) (unhide HK) rfl ?_
  intro D W' hD hg hK
  have HG := hide (gone_dn ⟨hg.sc, (unhide HM2).trans hg.mod⟩)
  have HD := hide (Nat.le_trans (unhide HM2).size hD)
  clear hg hD
  gi_wp2
  refine ⟨by simp, .inl ⟨_, _, rfl, run_takeDeferred hK, ?_⟩⟩
  refine ⟨_, results_tmp2 rfl _ _ _, rfl, ?_⟩
  have hg := unhide HG
  have hd := unhide HD
  have hbw := unhide HBW
  refine ⟨?_, hg.mod.os, hg.mod.tape, hg.mod.output, Nat.le_trans hg.mod.size (by simp [World.putObj]), fun k h1 h2 => ?_⟩
  · unfold Sc
    rw [World.putObj_heap_other (by simp at hd; omega)]
    exact hg.sc
  · rw [World.putObj_heap_other (by simp at hd; omega)]
    exact hg.mod.block k h1 h2

set_option maxHeartbeats 2000000 in
theorem step_tagFTY {S : ByteArray → Bool} {A : Bool} {L : Int → Bool} (h : Sc w b t k) (hk : k < t.size) (hs : Small t) (hA : Asks b k t S A L) (h1 : S ⟨#[60, 33, 45, 45]⟩ = false) (h2 : S ⟨#[60, 109, 101, 116, 97]⟩ = false) (h3 : S ⟨#[60]⟩ = true) (h3a : L 1 = false) (h4 : S ⟨#[60, 47]⟩ = true) (h4a : L 2 = true) :
    CallsIn Fence.wide 4 Tryd.prog 21 #[.pointer (some ⟨b, 0, none⟩)] w fun e w' => e = .returned (.tuple #[.int .i64 0, .bool false]) ∧ Gone w w' b t (attrsM t.data.toList (passP wordP t.data.toList k)).2 := by
  have HA := hide hA
  have HSC := hide h
  have HS := hide hs
  have HBW := hide h.lt
  have hle := passP_le (p := wordP) (l := t.data.toList) (k := k) (by rw [len_data]; omega)
  rw [len_data] at hle
  have HP : Hid (∀ W, Sc W b t k → Calls Tryd.prog 30 #[.pointer (some ⟨b, 0, none⟩), .func (.func 43) #[.pointer (some ⟨b, 0, none⟩)] #[]] W fun e w' => e = .returned (.tuple #[]) ∧ Sc w' b t (passP wordP t.data.toList k) ∧ Mod (· = b) W w') := hide (fun W hW => passWord hW hs (Nat.le_of_lt hk))
  generalize passP wordP t.data.toList k = k0 at HP hle ⊢
  have HK := hide hle.2
  clear h hk hs hA hle
  refine callsIn_of_wp_marks Tryd.func21 rfl trivial ?_ rfl
  simp only [Tryd.ntmps21, List.size_toArray, List.length_cons, List.length_nil, Nat.reduceAdd, Nat.reduceSub, Array.replicate_succ, Array.replicate_zero, List.push_toArray, List.append_toArray, List.nil_append, List.cons_append]
  gi_wp2_with (first
      | (refine wpIn_cond_split (t := true) rfl (fun _ => ?_) (fun h => by cases h))
      | (refine wpIn_cond_split (t := false) rfl (fun h => by cases h) (fun _ => ?_))
      | (refine ⟨trivial, ?_⟩; gi_at_call 32; refine (callsIn_wide.2 ((unhide HA).sees _ _ (by exact unhide HSC) (by decide) (by decide))).mono ?_; rintro e w1 ⟨rfl, m, rfl⟩; dsimp only; simp only [h1, h2, h3, h4])
      | (refine ⟨trivial, ?_⟩; gi_at_call 42; refine (callsIn_wide.2 ((unhide HA).letter _ _ (by decide) (by exact unhide HSC))).mono ?_; rintro e w1 ⟨rfl, rfl⟩; dsimp only; simp only [h3a, h4a])
      | (refine ⟨trivial, ?_⟩; gi_at_call 30; refine (callsIn_wide.2 ((unhide HP) _ (by exact unhide HSC))).mono ?_; rintro e w2 ⟨rfl, hsc2, hmod2⟩; have HSC2 := hide hsc2; have HM2 := hide hmod2; clear hsc2 hmod2; dsimp only)
      | ((with_reducible refine And.intro ?_ ?_); exact trivial))
  refine tag_loop (unhide HS) (unhide HSC2) (unhide HK) rfl ?_
  intro D W' hD hg hK
  have HG := hide (gone_dn ⟨hg.sc, (unhide HM2).trans hg.mod⟩)
  have HD := hide (Nat.le_trans (unhide HM2).size hD)
  clear hg hD
  gi_wp2
  refine ⟨by simp, .inl ⟨_, _, rfl, run_takeDeferred hK, ?_⟩⟩
  refine ⟨_, results_tmp2 rfl _ _ _, rfl, ?_⟩
  have hg := unhide HG
  have hd := unhide HD
  have hbw := unhide HBW
  refine ⟨?_, hg.mod.os, hg.mod.tape, hg.mod.output, Nat.le_trans hg.mod.size (by simp [World.putObj]), fun k h1 h2 => ?_⟩
  · unfold Sc
    rw [World.putObj_heap_other (by simp at hd; omega)]
    exact hg.sc
  · rw [World.putObj_heap_other (by simp at hd; omega)]
    exact hg.mod.block k h1 h2

set_option maxHeartbeats 2000000 in
theorem step_tagTY {S : ByteArray → Bool} {A : Bool} {L : Int → Bool} (h : Sc w b t k) (hk : k < t.size) (hs : Small t) (hA : Asks b k t S A L) (h1 : S ⟨#[60, 33, 45, 45]⟩ = false) (h2 : S ⟨#[60, 109, 101, 116, 97]⟩ = true) (h2a : A = false) (h3 : S ⟨#[60]⟩ = true) (h3a : L 1 = true) :
    CallsIn Fence.wide 4 Tryd.prog 21 #[.pointer (some ⟨b, 0, none⟩)] w fun e w' => e = .returned (.tuple #[.int .i64 0, .bool false]) ∧ Gone w w' b t (attrsM t.data.toList (passP wordP t.data.toList k)).2 := by
  have HA := hide hA
  have HSC := hide h
  have HS := hide hs
  have HBW := hide h.lt
  have hle := passP_le (p := wordP) (l := t.data.toList) (k := k) (by rw [len_data]; omega)
  rw [len_data] at hle
  have HP : Hid (∀ W, Sc W b t k → Calls Tryd.prog 30 #[.pointer (some ⟨b, 0, none⟩), .func (.func 43) #[.pointer (some ⟨b, 0, none⟩)] #[]] W fun e w' => e = .returned (.tuple #[]) ∧ Sc w' b t (passP wordP t.data.toList k) ∧ Mod (· = b) W w') := hide (fun W hW => passWord hW hs (Nat.le_of_lt hk))
  generalize passP wordP t.data.toList k = k0 at HP hle ⊢
  have HK := hide hle.2
  clear h hk hs hA hle
  refine callsIn_of_wp_marks Tryd.func21 rfl trivial ?_ rfl
  simp only [Tryd.ntmps21, List.size_toArray, List.length_cons, List.length_nil, Nat.reduceAdd, Nat.reduceSub, Array.replicate_succ, Array.replicate_zero, List.push_toArray, List.append_toArray, List.nil_append, List.cons_append]
  gi_wp2_with (first
      | (refine wpIn_cond_split (t := true) rfl (fun _ => ?_) (fun h => by cases h))
      | (refine wpIn_cond_split (t := false) rfl (fun h => by cases h) (fun _ => ?_))
      | (refine ⟨trivial, ?_⟩; gi_at_call 32; refine (callsIn_wide.2 ((unhide HA).sees _ _ (by exact unhide HSC) (by decide) (by decide))).mono ?_; rintro e w1 ⟨rfl, m, rfl⟩; dsimp only; simp only [h1, h2, h3])
      | (refine ⟨trivial, ?_⟩; gi_at_call 40; refine (callsIn_wide.2 ((unhide HA).among _ (by exact unhide HSC))).mono ?_; rintro e w1 ⟨rfl, rfl⟩; dsimp only; simp only [h2a])
      | (refine ⟨trivial, ?_⟩; gi_at_call 42; refine (callsIn_wide.2 ((unhide HA).letter _ _ (by decide) (by exact unhide HSC))).mono ?_; rintro e w1 ⟨rfl, rfl⟩; dsimp only; simp only [h3a])
      | (refine ⟨trivial, ?_⟩; gi_at_call 30; refine (callsIn_wide.2 ((unhide HP) _ (by exact unhide HSC))).mono ?_; rintro e w2 ⟨rfl, hsc2, hmod2⟩; have HSC2 := hide hsc2; have HM2 := hide hmod2; clear hsc2 hmod2; dsimp only)
      | ((with_reducible refine And.intro ?_ ?_); exact trivial))
  refine tag_loop (unhide HS) (unhide HSC2) (unhide HK) rfl ?_
  intro D W' hD hg hK
  have HG := hide (gone_dn ⟨hg.sc, (unhide HM2).trans hg.mod⟩)
  have HD := hide (Nat.le_trans (unhide HM2).size hD)
  clear hg hD
  gi_wp2
  refine ⟨by simp, .inl ⟨_, _, rfl, run_takeDeferred hK, ?_⟩⟩
  refine ⟨_, results_tmp2 rfl _ _ _, rfl, ?_⟩
  have hg := unhide HG
  have hd := unhide HD
  have hbw := unhide HBW
  refine ⟨?_, hg.mod.os, hg.mod.tape, hg.mod.output, Nat.le_trans hg.mod.size (by simp [World.putObj]), fun k h1 h2 => ?_⟩
  · unfold Sc
    rw [World.putObj_heap_other (by simp at hd; omega)]
    exact hg.sc
  · rw [World.putObj_heap_other (by simp at hd; omega)]
    exact hg.mod.block k h1 h2

set_option maxHeartbeats 2000000 in
theorem step_tagTFY {S : ByteArray → Bool} {A : Bool} {L : Int → Bool} (h : Sc w b t k) (hk : k < t.size) (hs : Small t) (hA : Asks b k t S A L) (h1 : S ⟨#[60, 33, 45, 45]⟩ = false) (h2 : S ⟨#[60, 109, 101, 116, 97]⟩ = true) (h2a : A = false) (h3 : S ⟨#[60]⟩ = false) (h4 : S ⟨#[60, 47]⟩ = true) (h4a : L 2 = true) :
    CallsIn Fence.wide 4 Tryd.prog 21 #[.pointer (some ⟨b, 0, none⟩)] w fun e w' => e = .returned (.tuple #[.int .i64 0, .bool false]) ∧ Gone w w' b t (attrsM t.data.toList (passP wordP t.data.toList k)).2 := by
  have HA := hide hA
  have HSC := hide h
  have HS := hide hs
  have HBW := hide h.lt
  have hle := passP_le (p := wordP) (l := t.data.toList) (k := k) (by rw [len_data]; omega)
  rw [len_data] at hle
  have HP : Hid (∀ W, Sc W b t k → Calls Tryd.prog 30 #[.pointer (some ⟨b, 0, none⟩), .func (.func 43) #[.pointer (some ⟨b, 0, none⟩)] #[]] W fun e w' => e = .returned (.tuple #[]) ∧ Sc w' b t (passP wordP t.data.toList k) ∧ Mod (· = b) W w') := hide (fun W hW => passWord hW hs (Nat.le_of_lt hk))
  generalize passP wordP t.data.toList k = k0 at HP hle ⊢
  have HK := hide hle.2
  clear h hk hs hA hle
  refine callsIn_of_wp_marks Tryd.func21 rfl trivial ?_ rfl
  simp only [Tryd.ntmps21, List.size_toArray, List.length_cons, List.length_nil, Nat.reduceAdd, Nat.reduceSub, Array.replicate_succ, Array.replicate_zero, List.push_toArray, List.append_toArray, List.nil_append, List.cons_append]
  gi_wp2_with (first
      | (refine wpIn_cond_split (t := true) rfl (fun _ => ?_) (fun h => by cases h))
      | (refine wpIn_cond_split (t := false) rfl (fun h => by cases h) (fun _ => ?_))
      | (refine ⟨trivial, ?_⟩; gi_at_call 32; refine (callsIn_wide.2 ((unhide HA).sees _ _ (by exact unhide HSC) (by decide) (by decide))).mono ?_; rintro e w1 ⟨rfl, m, rfl⟩; dsimp only; simp only [h1, h2, h3, h4])
      | (refine ⟨trivial, ?_⟩; gi_at_call 40; refine (callsIn_wide.2 ((unhide HA).among _ (by exact unhide HSC))).mono ?_; rintro e w1 ⟨rfl, rfl⟩; dsimp only; simp only [h2a])
      | (refine ⟨trivial, ?_⟩; gi_at_call 42; refine (callsIn_wide.2 ((unhide HA).letter _ _ (by decide) (by exact unhide HSC))).mono ?_; rintro e w1 ⟨rfl, rfl⟩; dsimp only; simp only [h4a])
      | (refine ⟨trivial, ?_⟩; gi_at_call 30; refine (callsIn_wide.2 ((unhide HP) _ (by exact unhide HSC))).mono ?_; rintro e w2 ⟨rfl, hsc2, hmod2⟩; have HSC2 := hide hsc2; have HM2 := hide hmod2; clear hsc2 hmod2; dsimp only)
      | ((with_reducible refine And.intro ?_ ?_); exact trivial))
  refine tag_loop (unhide HS) (unhide HSC2) (unhide HK) rfl ?_
  intro D W' hD hg hK
  have HG := hide (gone_dn ⟨hg.sc, (unhide HM2).trans hg.mod⟩)
  have HD := hide (Nat.le_trans (unhide HM2).size hD)
  clear hg hD
  gi_wp2
  refine ⟨by simp, .inl ⟨_, _, rfl, run_takeDeferred hK, ?_⟩⟩
  refine ⟨_, results_tmp2 rfl _ _ _, rfl, ?_⟩
  have hg := unhide HG
  have hd := unhide HD
  have hbw := unhide HBW
  refine ⟨?_, hg.mod.os, hg.mod.tape, hg.mod.output, Nat.le_trans hg.mod.size (by simp [World.putObj]), fun k h1 h2 => ?_⟩
  · unfold Sc
    rw [World.putObj_heap_other (by simp at hd; omega)]
    exact hg.sc
  · rw [World.putObj_heap_other (by simp at hd; omega)]
    exact hg.mod.block k h1 h2

set_option maxHeartbeats 2000000 in
theorem step_tagTTY {S : ByteArray → Bool} {A : Bool} {L : Int → Bool} (h : Sc w b t k) (hk : k < t.size) (hs : Small t) (hA : Asks b k t S A L) (h1 : S ⟨#[60, 33, 45, 45]⟩ = false) (h2 : S ⟨#[60, 109, 101, 116, 97]⟩ = true) (h2a : A = false) (h3 : S ⟨#[60]⟩ = true) (h3a : L 1 = false) (h4 : S ⟨#[60, 47]⟩ = true) (h4a : L 2 = true) :
    CallsIn Fence.wide 4 Tryd.prog 21 #[.pointer (some ⟨b, 0, none⟩)] w fun e w' => e = .returned (.tuple #[.int .i64 0, .bool false]) ∧ Gone w w' b t (attrsM t.data.toList (passP wordP t.data.toList k)).2 := by
  have HA := hide hA
  have HSC := hide h
  have HS := hide hs
  have HBW := hide h.lt
  have hle := passP_le (p := wordP) (l := t.data.toList) (k := k) (by rw [len_data]; omega)
  rw [len_data] at hle
  have HP : Hid (∀ W, Sc W b t k → Calls Tryd.prog 30 #[.pointer (some ⟨b, 0, none⟩), .func (.func 43) #[.pointer (some ⟨b, 0, none⟩)] #[]] W fun e w' => e = .returned (.tuple #[]) ∧ Sc w' b t (passP wordP t.data.toList k) ∧ Mod (· = b) W w') := hide (fun W hW => passWord hW hs (Nat.le_of_lt hk))
  generalize passP wordP t.data.toList k = k0 at HP hle ⊢
  have HK := hide hle.2
  clear h hk hs hA hle
  refine callsIn_of_wp_marks Tryd.func21 rfl trivial ?_ rfl
  simp only [Tryd.ntmps21, List.size_toArray, List.length_cons, List.length_nil, Nat.reduceAdd, Nat.reduceSub, Array.replicate_succ, Array.replicate_zero, List.push_toArray, List.append_toArray, List.nil_append, List.cons_append]
  gi_wp2_with (first
      | (refine wpIn_cond_split (t := true) rfl (fun _ => ?_) (fun h => by cases h))
      | (refine wpIn_cond_split (t := false) rfl (fun h => by cases h) (fun _ => ?_))
      | (refine ⟨trivial, ?_⟩; gi_at_call 32; refine (callsIn_wide.2 ((unhide HA).sees _ _ (by exact unhide HSC) (by decide) (by decide))).mono ?_; rintro e w1 ⟨rfl, m, rfl⟩; dsimp only; simp only [h1, h2, h3, h4])
      | (refine ⟨trivial, ?_⟩; gi_at_call 40; refine (callsIn_wide.2 ((unhide HA).among _ (by exact unhide HSC))).mono ?_; rintro e w1 ⟨rfl, rfl⟩; dsimp only; simp only [h2a])
      | (refine ⟨trivial, ?_⟩; gi_at_call 42; refine (callsIn_wide.2 ((unhide HA).letter _ _ (by decide) (by exact unhide HSC))).mono ?_; rintro e w1 ⟨rfl, rfl⟩; dsimp only; simp only [h3a, h4a])
      | (refine ⟨trivial, ?_⟩; gi_at_call 30; refine (callsIn_wide.2 ((unhide HP) _ (by exact unhide HSC))).mono ?_; rintro e w2 ⟨rfl, hsc2, hmod2⟩; have HSC2 := hide hsc2; have HM2 := hide hmod2; clear hsc2 hmod2; dsimp only)
      | ((with_reducible refine And.intro ?_ ?_); exact trivial))
  refine tag_loop (unhide HS) (unhide HSC2) (unhide HK) rfl ?_
  intro D W' hD hg hK
  have HG := hide (gone_dn ⟨hg.sc, (unhide HM2).trans hg.mod⟩)
  have HD := hide (Nat.le_trans (unhide HM2).size hD)
  clear hg hD
  gi_wp2
  refine ⟨by simp, .inl ⟨_, _, rfl, run_takeDeferred hK, ?_⟩⟩
  refine ⟨_, results_tmp2 rfl _ _ _, rfl, ?_⟩
  have hg := unhide HG
  have hd := unhide HD
  have hbw := unhide HBW
  refine ⟨?_, hg.mod.os, hg.mod.tape, hg.mod.output, Nat.le_trans hg.mod.size (by simp [World.putObj]), fun k h1 h2 => ?_⟩
  · unfold Sc
    rw [World.putObj_heap_other (by simp at hd; omega)]
    exact hg.sc
  · rw [World.putObj_heap_other (by simp at hd; omega)]
    exact hg.mod.block k h1 h2
end
end Go.Proofs.YtmikcdmlhocgbaaDoor
