/-
  Package sniff's Content.
-/
import Derived.Test.YtmikcdmlhocgbaaDoorSe
namespace Go.Proofs.YtmikcdmlhocgbaaDoor
open Go.RowKit Go.Lib

def charsetL : List UInt8 := [99, 104, 97, 114, 115, 101, 116]
def contentF (l : List UInt8) : Nat → Nat → Option (List UInt8)
  | 0, _ => none
  | n + 1, k => if findM charsetL l k < l.length then (if seesM l (passP blankP l (findM charsetL l k + 7)) [61] then (charsetM l (passP blankP l (findM charsetL l k + 7))).1 else contentF l n (passP blankP l (findM charsetL l k + 7))) else none
def contentM (l : List UInt8) : Option (List UInt8) := contentF l (l.length + 1) 0
theorem contentF_end {l : List UInt8} {n k : Nat} (h : ¬ findM charsetL l k < l.length) : contentF l (n + 1) k = none := by rw [contentF, if_neg h]
theorem contentF_yes {l : List UInt8} {n k : Nat} (h : findM charsetL l k < l.length) (hs : seesM l (passP blankP l (findM charsetL l k + 7)) [61] = true) : contentF l (n + 1) k = (charsetM l (passP blankP l (findM charsetL l k + 7))).1 := by rw [contentF, if_pos h, if_pos hs]
theorem contentF_no {l : List UInt8} {n k : Nat} (h : findM charsetL l k < l.length) (hs : seesM l (passP blankP l (findM charsetL l k + 7)) [61] = false) : contentF l (n + 1) k = contentF l n (passP blankP l (findM charsetL l k + 7)) := by rw [contentF, if_pos h, if_neg (by rw [hs]; simp)]

/-- A scanner that is new. -/
theorem sc_new (w : World) (s : ByteArray) : Sc (w.alloc (.cells #[.string s, .int .i64 0] 46)) w.heap.size s 0 := heap_alloc_new w _
theorem Gone.old {w w' : World} {o : Obj} {t : ByteArray} {k : Nat} (h : Gone (w.alloc o) w' w.heap.size t k) : Below w.heap.size w w' :=
  ((Below.refl _ w).alloc (Nat.le_refl _) o).trans (h.mod.below (by simp) (fun k e => by omega))

theorem optV_size {o : Option (List UInt8)} {n : Nat} (h : ∀ x, o = some x → x.length ≤ n) : (⟨(o.getD []).toArray⟩ : ByteArray).size ≤ n := by
  cases o with
  | none => exact Nat.zero_le _
  | some x =>
    have := h x rfl
    show x.toArray.size ≤ n
    simpa using this
theorem quoted_short {l x : List UInt8} {k : Nat} (h : (quotedM l k).1 = some x) : x.length ≤ l.length := by
  unfold quotedM at h
  cases e : l[k]? with
  | none => rw [e] at h; simp at h
  | some c =>
    rw [e] at h
    simp only at h
    split at h
    · simp only [Option.some.injEq] at h
      rw [← h, List.length_drop, List.length_take]
      omega
    · simp at h
theorem charset_short {l x : List UInt8} {k : Nat} (h : (charsetM l k).1 = some x) : x.length ≤ l.length := by
  unfold charsetM at h
  split at h
  · simp at h
  · split at h
    · exact quoted_short h
    · simp only [Option.some.injEq] at h
      rw [← h, List.length_drop, List.length_take]
      omega

set_option maxHeartbeats 2000000 in
theorem content_any (s : ByteArray) (w : World) (hs : Small s) :
    Calls Tryd.prog 15 #[.string s] w fun e w' => e = .returned (optV (contentM s.data.toList)) ∧ Below w.heap.size w w' := by
  have HS := hide hs
  clear hs
  go_enter Tryd.func15, Tryd.ntmps15
  go_wp2
  go_loopg [] (s.size + 1) (fun g wx => ∃ j : Nat, j ≤ s.size ∧ s.size < g + j ∧ contentF s.data.toList g j = contentM s.data.toList ∧ Gone (w.alloc (.cells #[.string s, .int .i64 0] 46)) wx w.heap.size s j)
  case atStart => exact ⟨0, by omega, by omega, by unfold contentM; rw [len_data], Gone.refl (sc_new w s)⟩
  case round =>
    obtain ⟨j, hj, hjg, hc, hg⟩ := hrel
    obtain ⟨n, rfl⟩ : ∃ n, gk = n + 1 := ⟨gk - 1, by omega⟩
    have HC := hide hc
    have HG := hide hg
    have HF := hide (find_any hg.sc hj (unhide HS) ⟨#[99, 104, 97, 114, 115, 101, 116]⟩ (by decide) (by decide))
    change Hid (Calls Tryd.prog 29 #[.pointer (some ⟨w.heap.size, 0, none⟩), .string ⟨#[99, 104, 97, 114, 115, 101, 116]⟩] wr fun e w' => e = .returned (.bool (decide (findM charsetL s.data.toList j < s.size))) ∧ Gone wr w' w.heap.size s (findM charsetL s.data.toList j)) at HF
    have hsp := findM_spec (x := charsetL) (l := s.data.toList) (k := j) rfl (by rw [len_data]; exact hj)
    rw [len_data] at hsp
    have hfit := fun h => sees_fits (hsp.2.2 h) (by decide)
    rw [len_data] at hfit
    clear hc hg
    by_cases hq : findM charsetL s.data.toList j < s.size
    · have hd : decide (findM charsetL s.data.toList j < s.size) = true := by simpa using hq
      rw [hd] at HF
      have hq7 := hfit hq
      have h7 : charsetL.length = 7 := rfl
      rw [h7] at hq7
      have HY := hide (fun h => contentF_yes (l := s.data.toList) (n := n) (k := j) (by rw [len_data]; exact hq) h)
      have HN := hide (fun h => contentF_no (l := s.data.toList) (n := n) (k := j) (by rw [len_data]; exact hq) h)
      have hjq := hsp.1
      clear hsp hfit hd
      generalize findM charsetL s.data.toList j = q at HF hq hq7 HY HN hjq
      have hw : IntKind.i64.wrap ((q : Int) + 7) = (q : Int) + 7 := by have := unhide HS; unfold Small at this; exact wrap_add q 7 (by omega) (by omega)
      have hle := passP_le (p := blankP) (l := s.data.toList) (k := q + 7) (by rw [len_data]; omega)
      rw [len_data] at hle
      have HPB : Hid (∀ W, Sc W w.heap.size s (q + 7) → Calls Tryd.prog 30 #[.pointer (some ⟨w.heap.size, 0, none⟩), .func (.func 31) #[.pointer (some ⟨w.heap.size, 0, none⟩)] #[]] W fun e w'' => e = .returned (.tuple #[]) ∧ Sc w'' w.heap.size s (passP blankP s.data.toList (q + 7)) ∧ Mod (· = w.heap.size) W w'') := hide (fun W hW => passBlank hW (unhide HS) (by omega))
      generalize passP blankP s.data.toList (q + 7) = p at HPB hle HY HN
      have HP := hide hle
      have HJ := hide (And.intro hj (And.intro hjg (And.intro hjq hq7)))
      clear hle hj hjg hjq hq7 hq
      cases hr : seesM s.data.toList p [61] with
      | true =>
        have HY1 := hide (((unhide HY) hr).symm.trans (unhide HC))
        have hp : p < s.size := by
          have := sees_fits hr (by decide)
          rw [len_data] at this
          have h1 : ([61] : List UInt8).length = 1 := rfl
          omega
        have HR := hide (And.intro hr hp)
        have HSH := hide (fun x => charset_short (l := s.data.toList) (x := x) (k := p))
        generalize hcm : (charsetM s.data.toList p).1 = cm at HY1 HSH
        have HCM := hide hcm
        clear hr hp hcm
        go_wp2_with (first
          | (go_at_call 29; refine (unhide HF).mono ?_; rintro e w1 ⟨rfl, h1⟩; have hg1 := (unhide HG).then h1; obtain ⟨c0, c1, cf⟩ := hg1.sc.cells; have cf1 := cf 1; have HPP := hide ((unhide HPB) _ (hg1.sc.set (q + 7))); have HG1 := hide (hg1.set (q + 7)); clear h1 hg1 cf)
          | (go_at_call 30; refine (unhide HPP).mono ?_; rintro e w2 ⟨rfl, h4, h5⟩; have HG2 : Hid (Gone _ _ _ _ p) := hide ((unhide HG1).then ⟨h4, h5⟩); have HSE := hide (sees_any h4 (unhide HP).2 (unhide HS) ⟨#[61]⟩ (by decide) (by decide)); change Hid (Calls Tryd.prog 32 _ w2 fun e w' => e = .returned (.bool (seesM s.data.toList p [61])) ∧ ∃ n, w' = w2.drewN n) at HSE; rw [(unhide HR).1] at HSE; clear h4 h5)
          | (go_at_call 32; refine (unhide HSE).mono ?_; rintro e w3 ⟨rfl, m, rfl⟩; have HCH := hide (charset_any ((unhide HG2).dn m).sc (unhide HR).2 (unhide HS)); rw [unhide HCM] at HCH; unfold optV at HCH)
          | (go_at_call 33; refine (unhide HCH).mono ?_; rintro e w4 ⟨rfl, h6⟩; have HG4 := hide (((unhide HG2).dn m).then h6); have HCL := hide (clone_any ⟨(cm.getD []).toArray⟩ w4 (by have h8 := optV_size (unhide HSH); rw [len_data] at h8; have h9 := unhide HS; unfold Small at h9; omega)); clear h6)
          | (go_at_call 34; refine (unhide HCL).mono ?_; rintro e w5 ⟨rfl, h7⟩; have HG5 := hide ((unhide HG4).below h7); clear h7))
        go_ret2
        rw [← unhide HY1]
        exact ⟨rfl, (unhide HG5).old⟩
      | false =>
        have HN1 := hide (((unhide HN) hr).symm.trans (unhide HC))
        have HR := hide hr
        clear hr
        go_wp2_with (first
          | (go_at_call 29; refine (unhide HF).mono ?_; rintro e w1 ⟨rfl, h1⟩; have hg1 := (unhide HG).then h1; obtain ⟨c0, c1, cf⟩ := hg1.sc.cells; have cf1 := cf 1; have HPP := hide ((unhide HPB) _ (hg1.sc.set (q + 7))); have HG1 := hide (hg1.set (q + 7)); clear h1 hg1 cf)
          | (go_at_call 30; refine (unhide HPP).mono ?_; rintro e w2 ⟨rfl, h4, h5⟩; have HG2 : Hid (Gone _ _ _ _ p) := hide ((unhide HG1).then ⟨h4, h5⟩); have HSE := hide (sees_any h4 (unhide HP).2 (unhide HS) ⟨#[61]⟩ (by decide) (by decide)); change Hid (Calls Tryd.prog 32 _ w2 fun e w' => e = .returned (.bool (seesM s.data.toList p [61])) ∧ ∃ n, w' = w2.drewN n) at HSE; rw [unhide HR] at HSE; clear h4 h5)
          | (go_at_call 32; refine (unhide HSE).mono ?_; rintro e w3 ⟨rfl, m, rfl⟩))
        go_roundg n
        case measure => omega
        case rel => exact ⟨p, (unhide HP).2, by have := unhide HP; have := unhide HJ; omega, unhide HN1, (unhide HG2).dn _⟩
    · have hd : decide (findM charsetL s.data.toList j < s.size) = false := by simpa using hq
      rw [hd] at HF
      have HE := hide (contentF_end (l := s.data.toList) (n := n) (k := j) (by rw [len_data]; exact hq))
      clear hsp hfit hd hq
      generalize findM charsetL s.data.toList j = q at HF
      go_wp2_with (first | (go_at_call 29; refine (unhide HF).mono ?_; rintro e w1 ⟨rfl, h1⟩; have HG1 := hide ((unhide HG).then h1); clear h1))
      go_ret2
      have e1 : contentM s.data.toList = none := (unhide HC).symm.trans (unhide HE)
      rw [e1]
      exact ⟨rfl, (unhide HG1).old⟩
end Go.Proofs.YtmikcdmlhocgbaaDoor
