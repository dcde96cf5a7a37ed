/-
  Package edit's AddElement and AddText, where they add.
-/
import Derived.Test.YtlbkoafeedlfaaaEa
namespace Go.Proofs.Ytlbkoafeedlfaaa
open Go.RowKit

def appO (os : List OneM) (p : Nat) (q : OneM) : List OneM := linkO (os ++ [q]) p os.length (-1)
def lowS (s : ByteArray) : ByteArray := ⟨(s.data.toList.map lowB).toArray⟩

theorem Upd.next {F F1 : Nat → Prop} {w w1 w2 : World} {base bA : Nat} {ms : List NodeM} (hm : Mod F w w1) (hF : ∀ k, F1 k → F k ∨ w.heap.size ≤ k) (h : Upd F1 w1 w2 base bA ms) : Upd F w w2 base bA ms := by
  obtain ⟨F2, h1, h2, h3⟩ := h
  refine ⟨F2, h1, ⟨h2.os.trans hm.os, h2.tape.trans hm.tape, h2.output.trans hm.output, Nat.le_trans hm.size h2.size, fun k hk hf => ?_⟩, fun k hk => ?_⟩
  · rw [h2.block k (Nat.lt_of_lt_of_le hk hm.size) (fun e => (hF k e).elim hf (fun e => by omega)), hm.block k hk hf]
  · rcases h3 k hk with e | e
    · exact hF k e
    · exact .inr (Nat.le_trans hm.size e)

theorem link_new {ns : List NodeM} {os : List OneM} {q : OneM} (hs : Sim ns (os ++ [q])) {p : Nat} {op : OneM} (hop : os[p]? = some op) (hpar : parentM op.kind = true) (hk : q.kids = []) (hi : q.inner = -1) (hu : q.up = -1) (h0 : q.kind ≠ 0) (h5 : q.kind ≠ 5) :
    linkE (os ++ [q]) p os.length (-1) = 0 := by
  have hlt : p < os.length := (List.getElem?_eq_some_iff.1 hop).1
  have hop' : (os ++ [q])[p]? = some op := by rw [List.getElem?_append_left hlt]; exact hop
  have hq : (os ++ [q])[os.length]? = some q := by simp
  have hab : aboveO (os ++ [q]) p os.length = false := by
    rw [aboveO_eq]
    rw [Bool.and_eq_false_iff]
    right
    rw [decide_eq_false_iff_not]
    rintro ⟨path, hp, hx⟩
    have := hs.above_has hq hk hi hp (mem_inPath.1 hx)
    omega
  unfold linkE
  rw [hasO_of hop', hasO_of hq, kindO_of hop', kindO_of hq, upIO_of hq, hab, hpar]
  simp [h0, h5, hu]

theorem linkR_new {ns : List NodeM} {os : List OneM} {q : OneM} (hs : Sim ns (os ++ [q])) {p : Nat} {op : OneM} (hop : os[p]? = some op) (hpar : parentM op.kind = true) (hk : q.kids = []) (hi : q.inner = -1) (hu : q.up = -1) (h0 : q.kind ≠ 0) (h5 : q.kind ≠ 5) :
    linkR (os ++ [q]) p os.length (-1) = appO os p q := by
  unfold linkR
  rw [if_pos (link_new hs hop hpar hk hi hu h0 h5)]
  simp [appO]

section
variable {w W : World} {base bA : Nat} {ns : List NodeM} {os : List OneM} {q : OneM} {F : Nat → Prop}

/-- A node made and linked. -/
theorem linked (hs1 : ∃ ms F1, ArS W base bA ms F1 ∧ Mod F w W ∧ (∀ k, F1 k → F k ∨ w.heap.size ≤ k) ∧ Sim ms (os ++ [q])) {p : Nat} {op : OneM} (hop : os[p]? = some op) (hpar : parentM op.kind = true) (hk : q.kids = []) (hi : q.inner = -1) (hu : q.up = -1) (h0 : q.kind ≠ 0) (h5 : q.kind ≠ 5) :
    Calls Try.prog 35 #[.pointer (some ⟨bA, 0, none⟩), .int .i64 p, .int .i64 os.length, .int .i64 (-1)] W fun e w' => e = .returned (.int .i64 0) ∧ USim F w w' base bA (appO os p q) := by
  obtain ⟨ms, F1, ha, hm, hF, hs⟩ := hs1
  refine (link_sim ha hs p os.length (-1)).mono fun e w' ⟨h1, ms2, h2, h3⟩ => ?_
  rw [link_new hs hop hpar hk hi hu h0 h5] at h1
  rw [linkR_new hs hop hpar hk hi hu h0 h5] at h3
  exact ⟨h1, ms2, Upd.next hm hF h2, h3⟩

theorem count_none (a : Option Addr) (c : Nat) (b : Option Addr) (n d : Nat) : Calls Try.prog 62 #[.pointer (some ⟨bA, 0, none⟩), .slice a 0 c, .slice b n d] w fun e w' => e = .returned (.int .i64 0) ∧ w' = w := by
  go_enter Try.func62, Try.ntmps62
  go_wp2
  go_loop [7, 12] (fun n k => n = .int .i64 0 ∧ k = .int .i64 0) (fun _ _ => 0)
  case atStart => exact ⟨rfl, rfl⟩
  case round =>
    obtain ⟨rfl, rfl⟩ := hrel
    go_wp2
    go_ret
    exact ⟨rfl, rfl⟩

theorem elemO_new (s : ByteArray) (hs : s.size ≤ 100) (ht : isT s = false) (hroom : os.length + 1 ≤ 32768) : elemO os 0 s [] = (os ++ [elemQ 0 s []], (os.length : Int), 0) := by
  have hl : longS s = false := by unfold longS; simp; omega
  unfold elemO longE addO
  simp [hl, ht, hroom]

theorem lowS_size (s : ByteArray) : (lowS s).size = s.size := by
  show (s.data.toList.map lowB).toArray.size = s.data.size
  simp

set_option maxHeartbeats 4000000 in
theorem addElem_in (h : ArS w base bA ns F) (hs : Sim ns os) (s : ByteArray) (hsz : s.size ≤ 100) (hname : ∀ W, Calls Try.prog 60 #[.string s] W fun e w' => e = .returned (.bool true) ∧ Below W.heap.size W w') (ht : isT (lowS s) = false)
    (p : Nat) (op : OneM) (hop : os[p]? = some op) (hpar : parentM op.kind = true) (hroom : os.length + 1 ≤ 32768) (hp0 : p ≠ 0) :
    Calls Try.prog 24 #[.pointer (some ⟨bA, 0, none⟩), .string s, .int .i64 p] w fun e w' => e = .returned (.tuple #[.int .i64 os.length, .int .i64 0]) ∧ USim F w w' base bA (appO os p (elemQ 0 (lowS s) [])) := by
  have hlt : p < os.length := (List.getElem?_eq_some_iff.1 hop).1
  have HA : Hid (∀ W, Below w.heap.size w W → ArS W base bA ns F) := hide (fun W hb => h.below hb)
  have HS := hide hs
  have HN := hide hname
  have HOP := hide hop
  have HPAR := hide hpar
  have hp1 : ¬ (p : Int) = 0 := by omega
  have hp2 : ((p : Int) == 0) = false := by simpa using hp1
  have HEL : Hid (∀ W, Below w.heap.size w W → Calls Try.prog 34 #[.pointer (some ⟨bA, 0, none⟩), .int .i64 0, .string ⟨(s.data.toList.map lowB).toArray⟩, .slice none 0 0] W fun e w6 => e = .returned (.tuple #[.int .i64 os.length, .int .i64 0]) ∧ Calls Try.prog 35 #[.pointer (some ⟨bA, 0, none⟩), .int .i64 p, .int .i64 os.length, .int .i64 (-1)] w6 fun e w' => e = .returned (.int .i64 0) ∧ USim F w w' base bA (appO os p (elemQ 0 (lowS s) []))) := hide (fun W hW => by
    have hel := element_sim (h.below hW) hs 0 (lowS s) none 0 [] ⟨fun i x hi => by simp at hi⟩ (by simp)
    rw [elemO_new (lowS s) (by rw [lowS_size]; exact hsz) ht hroom] at hel
    refine hel.mono fun e w6 ⟨he, ms, ⟨F1, h1, h2, h3⟩, h4⟩ => ⟨he, ?_⟩
    exact linked (os := os) (q := elemQ 0 (lowS s) []) (F := F) (w := w) ⟨ms, F1, h1, (Mod.of_below hW).trans h2, fun k hk => (h3 k hk).imp id (fun e => Nat.le_trans hW.size e), h4⟩ hop hpar rfl rfl rfl (by simp [elemQ, oneM]) (by simp [elemQ, oneM]))
  clear h hs hname hop ht hpar
  go_enter Try.func24, Try.ntmps24
  go_wp2_with (first
    | (go_at_call 59; refine (mayFind_one ((unhide HA) _ ((Below.refl _ w).alloc (Nat.le_refl _) _)) (unhide HS) p hlt _ _ (by simp)).mono ?_; rintro e w1 ⟨rfl, rfl⟩)
    | (go_at_call 60; refine ((unhide HN) _).mono ?_; rintro e w2 ⟨rfl, hb2⟩; have HB2 := hide (((Below.refl _ w).alloc (Nat.le_refl _) _).trans (hb2.mono (by simp))); clear hb2)
    | (go_at_call 61; refine (editParent ((unhide HA) _ (unhide HB2)) (unhide HS) p op (unhide HOP)).mono ?_; rw [unhide HPAR]; rintro e w3 ⟨rfl, hb3⟩; have HB3 := hide ((unhide HB2).trans (hb3.mono (unhide HB2).size)); clear hb3)
    | (go_at_call 63; refine (small_any s _ hsz).mono ?_; rintro e w5 ⟨rfl, hb5⟩; have HB5 := hide ((unhide HB3).trans (hb5.mono (unhide HB3).size)); clear hb5)
    | (go_at_call 34; go_loud (refine ((unhide HEL) _ (unhide HB5)).mono ?_; rintro e w6 ⟨rfl, H6'⟩; have H6 := hide H6'; clear H6'))
    | (go_at_call 35; refine (unhide H6).mono ?_; rintro e w7 ⟨rfl, hu7⟩; have HU7 := hide hu7; clear hu7))
  go_ret2
  exact ⟨rfl, unhide HU7⟩

set_option maxHeartbeats 4000000 in
theorem addElem_doc (h : ArS w base bA ns F) (hs : Sim ns os) (s : ByteArray) (hsz : s.size ≤ 100) (hname : ∀ W, Calls Try.prog 60 #[.string s] W fun e w' => e = .returned (.bool true) ∧ Below W.heap.size W w') (ht : isT (lowS s) = false)
    (op : OneM) (hop : os[0]? = some op) (hpar : parentM op.kind = true) (hroom : os.length + 1 ≤ 32768) (hk0 : op.kids = []) :
    Calls Try.prog 24 #[.pointer (some ⟨bA, 0, none⟩), .string s, .int .i64 0] w fun e w' => e = .returned (.tuple #[.int .i64 os.length, .int .i64 0]) ∧ USim F w w' base bA (appO os 0 (elemQ 0 (lowS s) [])) := by
  have hlt : 0 < os.length := (List.getElem?_eq_some_iff.1 hop).1
  have HA : Hid (∀ W, Below w.heap.size w W → ArS W base bA ns F) := hide (fun W hb => h.below hb)
  have HS := hide hs
  have HN := hide hname
  have HOP := hide hop
  have HPAR := hide hpar
  have HK : Hid (∀ W, Below w.heap.size w W → Calls Try.prog 19 #[.pointer (some ⟨bA, 0, none⟩), .int .i64 0] W fun e w' => ∃ a c, e = .returned (.slice a 0 c) ∧ Below W.heap.size W w') := hide (fun W hW => by
    refine (kids_sim (h.below hW) hs 0).mono fun e w' ⟨v, h1, h2, h3⟩ => ?_
    have e0 : kidsO os 0 = [] := by have := kidsO_of hop; simpa [hk0] using this
    rw [e0] at h2
    rcases h2.2 with ⟨rfl, _⟩ | ⟨g, cap, cur, rfl, _⟩
    · exact ⟨_, _, h1, h3⟩
    · exact ⟨_, _, h1, h3⟩)
  have HEL : Hid (∀ W, Below w.heap.size w W → Calls Try.prog 34 #[.pointer (some ⟨bA, 0, none⟩), .int .i64 0, .string ⟨(s.data.toList.map lowB).toArray⟩, .slice none 0 0] W fun e w6 => e = .returned (.tuple #[.int .i64 os.length, .int .i64 0]) ∧ Calls Try.prog 35 #[.pointer (some ⟨bA, 0, none⟩), .int .i64 0, .int .i64 os.length, .int .i64 (-1)] w6 fun e w' => e = .returned (.int .i64 0) ∧ USim F w w' base bA (appO os 0 (elemQ 0 (lowS s) []))) := hide (fun W hW => by
    have hel := element_sim (h.below hW) hs 0 (lowS s) none 0 [] ⟨fun i x hi => by simp at hi⟩ (by simp)
    rw [elemO_new (lowS s) (by rw [lowS_size]; exact hsz) ht hroom] at hel
    refine hel.mono fun e w6 ⟨he, ms, ⟨F1, h1, h2, h3⟩, h4⟩ => ⟨he, ?_⟩
    exact linked (p := 0) (os := os) (q := elemQ 0 (lowS s) []) (F := F) (w := w) ⟨ms, F1, h1, (Mod.of_below hW).trans h2, fun k hk => (h3 k hk).imp id (fun e => Nat.le_trans hW.size e), h4⟩ hop hpar rfl rfl rfl (by simp [elemQ, oneM]) (by simp [elemQ, oneM]))
  clear h hs hname hop ht hpar
  go_enter Try.func24, Try.ntmps24
  go_wp2_with (first
    | (go_at_call 59; refine (mayFind_one ((unhide HA) _ ((Below.refl _ w).alloc (Nat.le_refl _) _)) (unhide HS) 0 hlt _ _ (by simp)).mono ?_; rintro e w1 ⟨rfl, rfl⟩)
    | (go_at_call 60; refine ((unhide HN) _).mono ?_; rintro e w2 ⟨rfl, hb2⟩; have HB2 := hide (((Below.refl _ w).alloc (Nat.le_refl _) _).trans (hb2.mono (by simp))); clear hb2)
    | (go_at_call 61; refine (editParent ((unhide HA) _ (unhide HB2)) (unhide HS) 0 op (unhide HOP)).mono ?_; rw [unhide HPAR]; rintro e w3 ⟨rfl, hb3⟩; have HB3 := hide ((unhide HB2).trans (hb3.mono (unhide HB2).size)); clear hb3)
    | (go_at_call 19; refine ((unhide HK) _ (unhide HB3)).mono ?_; rintro e w4 ⟨ka, kc, rfl, hb4⟩; have HB4 := hide ((unhide HB3).trans (hb4.mono (unhide HB3).size)); clear hb4)
    | (go_at_call 62; refine (count_none _ _ _ _ _).mono ?_; rintro e w' ⟨rfl, rfl⟩)
    | (go_at_call 63; refine (small_any s _ hsz).mono ?_; rintro e w5 ⟨rfl, hb5⟩; have HB5 := hide (((unhide HB4).alloc (unhide HB4).size _).trans (hb5.mono (by have := (unhide HB4).size; simp; omega))); clear hb5)
    | (go_at_call 34; go_loud (refine ((unhide HEL) _ (unhide HB5)).mono ?_; rintro e w6 ⟨rfl, H6'⟩; have H6 := hide H6'; clear H6'))
    | (go_at_call 35; refine (unhide H6).mono ?_; rintro e w7 ⟨rfl, hu7⟩; have HU7 := hide hu7; clear hu7))
  go_ret2
  exact ⟨rfl, unhide HU7⟩

theorem dataO_new (s : ByteArray) (hs : s.size ≤ 100) (hroom : os.length + 1 ≤ 32768) : dataO os 2 s = (os ++ [dataQ 2 s], (os.length : Int), 0) := by
  have hl : longS s = false := by unfold longS; simp; omega
  unfold dataO addO
  simp [hl, hroom]

set_option maxHeartbeats 4000000 in
theorem addText_in (h : ArS w base bA ns F) (hs : Sim ns os) 
    (p : Nat) (op : OneM) (hop : os[p]? = some op) (hpar : parentM op.kind = true) (hroom : os.length + 1 ≤ 32768) (hp0 : p ≠ 0) :
    Calls Try.prog 25 #[.pointer (some ⟨bA, 0, none⟩), .string ⟨#[116]⟩, .int .i64 p] w fun e w' => e = .returned (.tuple #[.int .i64 os.length, .int .i64 0]) ∧ USim F w w' base bA (appO os p (dataQ 2 ⟨#[116]⟩)) := by
  have hlt : p < os.length := (List.getElem?_eq_some_iff.1 hop).1
  have HA : Hid (∀ W, Below w.heap.size w W → ArS W base bA ns F) := hide (fun W hb => h.below hb)
  have HS := hide hs
  have HOP := hide hop
  have HPAR := hide hpar
  have hp1 : ¬ (p : Int) = 0 := by omega
  have hp2 : ((p : Int) == 0) = false := by simpa using hp1
  have hz2 : ¬ (32768 : Int) ≤ (os.length : Int) := by omega
  have HEL : Hid (∀ W, Below w.heap.size w W → Calls Try.prog 64 #[.pointer (some ⟨bA, 0, none⟩), .string ⟨#[116]⟩] W fun e w6 => e = .returned (.tuple #[.int .i64 os.length, .int .i64 0]) ∧ Calls Try.prog 35 #[.pointer (some ⟨bA, 0, none⟩), .int .i64 p, .int .i64 os.length, .int .i64 (-1)] w6 fun e w' => e = .returned (.int .i64 0) ∧ USim F w w' base bA (appO os p (dataQ 2 ⟨#[116]⟩))) := hide (fun W hW => by
    have hel := text_sim (h.below hW) hs ⟨#[116]⟩
    rw [dataO_new ⟨#[116]⟩ (by decide) hroom] at hel
    refine hel.mono fun e w6 ⟨he, ms, ⟨F1, h1, h2, h3⟩, h4⟩ => ⟨he, ?_⟩
    exact linked (os := os) (q := dataQ 2 ⟨#[116]⟩) (F := F) (w := w) ⟨ms, F1, h1, (Mod.of_below hW).trans h2, fun k hk => (h3 k hk).imp id (fun e => Nat.le_trans hW.size e), h4⟩ hop hpar rfl rfl rfl (by simp [dataQ, oneM]) (by simp [dataQ, oneM]))
  clear h hs hop hpar
  clear hroom
  have hz3 : ((32768 : Int) ≤ (os.length : Int)) = False := by simpa using hz2
  go_enter Try.func25, Try.ntmps25
  set_option maxRecDepth 10000 in
  go_wp2_with (first
    | (go_at_call 59; refine (mayFind_one ((unhide HA) _ ((Below.refl _ w).alloc (Nat.le_refl _) _)) (unhide HS) p hlt _ _ (by simp)).mono ?_; rintro e w1 ⟨rfl, rfl⟩)
    | (go_at_call 17; refine (lenO ((unhide HA) _ ((Below.refl _ w).alloc (Nat.le_refl _) _)) (unhide HS)).mono ?_; rintro e w1 ⟨rfl, rfl⟩)
    | (go_at_call 61; refine (editParent ((unhide HA) _ ((Below.refl _ w).alloc (Nat.le_refl _) _)) (unhide HS) p op (unhide HOP)).mono ?_; rw [unhide HPAR]; rintro e w3 ⟨rfl, hb3⟩; have HB3 := hide (((Below.refl _ w).alloc (Nat.le_refl _) _).trans (hb3.mono (by simp))); clear hb3)
    | (go_at_call 64; refine ((unhide HEL) _ (unhide HB3)).mono ?_; rintro e w6 ⟨rfl, H6'⟩; have H6 := hide H6'; clear H6')
    | (go_at_call 35; refine (unhide H6).mono ?_; rintro e w7 ⟨rfl, hu7⟩; have HU7 := hide hu7; clear hu7))
  go_ret2
  exact ⟨rfl, unhide HU7⟩
end
end Go.Proofs.Ytlbkoafeedlfaaa
