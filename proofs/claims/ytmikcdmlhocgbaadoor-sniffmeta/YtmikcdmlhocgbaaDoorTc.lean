/-
  Package sniff's Prescan.
-/
import Derived.Test.YtmikcdmlhocgbaaDoorTb
import Derived.Lib.SlBytesConst
namespace Go.Proofs.YtmikcdmlhocgbaaDoor
open Go.RowKit Go.Lib

def prescanF (l : List UInt8) : Nat → Nat → Int × Int
  | 0, _ => (0, 6)
  | n + 1, k => if k < l.length then (if (stepM l k).1.2 then ((stepM l k).1.1, 0) else prescanF l n (stepM l k).2) else (0, 6)
def prescanM (l : List UInt8) : Int × Int := prescanF (l.take 1024) 1025 0
theorem prescanF_end {l : List UInt8} {n k : Nat} (h : ¬ k < l.length) : prescanF l n k = (0, 6) := by
  cases n with
  | zero => rfl
  | succ n => unfold prescanF; rw [if_neg h]
theorem prescanF_yes {l : List UInt8} {n k : Nat} (h : k < l.length) (h2 : (stepM l k).1.2 = true) : prescanF l (n + 1) k = ((stepM l k).1.1, 0) := by
  rw [prescanF, if_pos h, if_pos h2]
theorem prescanF_no {l : List UInt8} {n k : Nat} (h : k < l.length) (h2 : (stepM l k).1.2 = false) : prescanF l (n + 1) k = prescanF l n (stepM l k).2 := by
  rw [prescanF, if_pos h, if_neg (by rw [h2]; decide)]

theorem find_le {x l : List UInt8} {k : Nat} (hk : k ≤ l.length) : k ≤ findM x l k ∧ findM x l k ≤ l.length := by
  unfold findM
  generalize hn : l.length - k = n
  induction n generalizing k with
  | zero => unfold findF; omega
  | succ n ih =>
    unfold findF
    split
    · omega
    · have := ih (k := k + 1) (by omega) (by omega)
      omega
theorem behind_le {x l : List UInt8} {k : Nat} (hk : k ≤ l.length) (hx : 0 < x.length) (hf : ∀ q, q < l.length → findM x l k = q → seesM l q x = true) : k ≤ behindM x l k ∧ behindM x l k ≤ l.length ∧ (k < l.length → k < behindM x l k) := by
  have h := find_le (x := x) hk
  unfold behindM
  split
  · rename_i hlt
    have := sees_fits (hf _ hlt rfl) hx
    omega
  · omega
theorem find_sees {x l : List UInt8} {k q : Nat} (hk : k ≤ l.length) (hq : q < l.length) (e : findM x l k = q) : seesM l q x = true := by
  unfold findM at e
  generalize hn : l.length - k = n at e
  induction n generalizing k with
  | zero => unfold findF at e; omega
  | succ n ih =>
    unfold findF at e
    split at e
    · subst e; assumption
    · exact ih (k := k + 1) (by omega) (by omega) e
theorem low60 (c : UInt8) (h : low c = 60) : c = 60 := by
  by_cases hc : 65 ≤ c.toNat ∧ c.toNat ≤ 90
  · have h1 := low_cap c hc.1 hc.2
    rw [h] at h1
    have h2 : ((60 : UInt8).toNat : Int) = 60 := rfl
    omega
  · rw [low_other c hc] at h
    exact h
theorem step_le {l : List UInt8} {k : Nat} (hk : k < l.length) : k < (stepM l k).2 ∧ (stepM l k).2 ≤ l.length := by
  unfold stepM
  cases c1 : seesM l k comL with
  | true =>
    rw [if_pos rfl]
    have h4 := sees_fits c1 (by decide)
    have e4 : comL.length = 4 := rfl
    have := behind_le (x := comE) (l := l) (k := k + 2) (by omega) (by decide) (fun q hq e => find_sees (by omega) hq e)
    simp only
    omega
  | false =>
    rw [if_neg (by simp)]
    cases cm : isMeta l k with
    | true =>
      rw [if_pos rfl]
      unfold isMeta at cm
      rw [Bool.and_eq_true] at cm
      have h5 := sees_fits cm.1 (by decide)
      have e5 : metaL.length = 5 := rfl
      have := attrsM_le (l := l) (n := l.length) (k := k + 5) (by omega) (by omega)
      simp only
      omega
    | false =>
      rw [if_neg (by simp)]
      cases ct : isTag l k with
      | true =>
        rw [if_pos rfl]
        have hlt : low l[k] = 60 := by
          unfold isTag at ct
          rw [Bool.or_eq_true, Bool.and_eq_true, Bool.and_eq_true] at ct
          rcases ct with ⟨h, _⟩ | ⟨h, _⟩
          · rw [sees_one hk] at h
            simpa using h
          · unfold seesM at h
            rw [decide_eq_true_eq, List.drop_eq_getElem_cons hk] at h
            simp only [List.length_cons, List.length_nil, List.take_succ_cons, List.map_cons] at h
            injection h
        have hw : askP wordP l k = true := by
          unfold askP
          rw [List.getElem?_eq_getElem hk, low60 _ hlt]
          rfl
        have h1 := (passP_yes hw).2
        have h2 := passP_le (p := wordP) (l := l) (k := k + 1) (by omega)
        rw [← h1] at h2
        have := attrsM_le (l := l) (n := l.length) (k := passP wordP l k) (by omega) (by omega)
        simp only
        omega
      | false =>
        rw [if_neg (by simp)]
        split
        · have := behind_le (x := [62]) (l := l) (k := k) (by omega) (by decide) (fun q hq e => find_sees (by omega) hq e)
          simp only
          omega
        · simp only
          omega

set_option maxRecDepth 8000 in
set_option maxHeartbeats 1000000 in
theorem prescan_some (w : World) (x : Addr) (cap n m : Nat) (t : ByteArray) (hmin : min (n : Int) 1024 = (m : Int)) (hmc : m ≤ cap) (ht : t.size = m) (hm : m ≤ 1024)
    (hbk : (convert 22 9 (.slice (some x) m cap)).run Tryd.prog w = .ok (.string t) w) :
    Calls Tryd.prog 13 #[.slice (some x) n cap] w fun e w' => e = .returned (.tuple #[.int .i64 (prescanF t.data.toList 1025 0).1, .int .i64 (prescanF t.data.toList 1025 0).2]) ∧ Below w.heap.size w w' := by
  have HM := hide (And.intro ht hm)
  have HG0 := hide (Gone.mk (sc_new w t) (Mod.refl (fun x => x = w.heap.size) (w.alloc (.cells #[.string t, .int .i64 0] 46))))
  obtain ⟨ans, hans⟩ : ∃ ans, prescanF t.data.toList 1025 0 = ans := ⟨_, rfl⟩
  rw [hans]
  have HANS := hide hans
  clear ht hm hans
  go_enter Tryd.func13, Tryd.ntmps13
  go_wp2
  go_loopg [] 1025 (fun g wx => ∃ k, k ≤ t.size ∧ t.size < g + k ∧ prescanF t.data.toList g k = ans ∧ Gone (w.alloc (.cells #[.string t, .int .i64 0] 46)) wx w.heap.size t k)
  case atStart => exact ⟨0, Nat.zero_le _, by have := unhide HM; omega, unhide HANS, unhide HG0⟩
  case round =>
    obtain ⟨j, hj, hjg, hc, hg⟩ := hrel
    have HC := hide hc
    have HG := hide hg
    have HO := hide (over_any hg.sc)
    by_cases ho : t.size ≤ j
    · have hd : decide (t.size ≤ j) = true := by simpa using ho
      rw [hd] at HO
      have HE := hide (prescanF_end (l := t.data.toList) (n := gk) (k := j) (by rw [len_data]; omega))
      clear hc hg hd ho hj hjg
      go_wp2_with (first | (go_at_call 20; refine (unhide HO).mono ?_; rintro e w1 ⟨rfl, m1, rfl⟩))
      go_ret2
      have h1 := (unhide HE).symm.trans (unhide HC)
      rw [← h1]
      exact ⟨rfl, ((unhide HG).dn _).old⟩
    · have hd : decide (t.size ≤ j) = false := by simpa using ho
      rw [hd] at HO
      obtain ⟨g, rfl⟩ : ∃ g, gk = g + 1 := ⟨gk - 1, by omega⟩
      have HST := hide (fun n => step_any (hg.sc.dn n) (by omega) (by have := unhide HM; unfold Small; omega))
      have hle := step_le (l := t.data.toList) (k := j) (by rw [len_data]; omega)
      rw [len_data] at hle
      have HF := hide (And.intro hj (And.intro hjg hle))
      cases hq : (stepM t.data.toList j).1.2 with
      | true =>
        have HE := hide (prescanF_yes (n := g) (by rw [len_data]; omega) hq)
        rw [hq] at HST
        generalize (stepM t.data.toList j).1.1 = q1 at HST HE
        generalize (stepM t.data.toList j).2 = q2 at HST HF hle
        clear hc hg hd ho hj hjg hle hq
        go_wp2_with (first
          | (go_at_call 20; refine (unhide HO).mono ?_; rintro e w1 ⟨rfl, m1, rfl⟩)
          | (go_at_call 21; refine ((unhide HST) _).mono ?_; rintro e w2 ⟨rfl, hg2⟩; have HG2 := hide hg2; clear hg2))
        go_ret2
        have h1 := (unhide HE).symm.trans (unhide HC)
        rw [← h1]
        exact ⟨rfl, (((unhide HG).dn _).then (unhide HG2)).old⟩
      | false =>
        have HE := hide (prescanF_no (n := g) (by rw [len_data]; omega) hq)
        rw [hq] at HST
        generalize (stepM t.data.toList j).1.1 = q1 at HST
        generalize (stepM t.data.toList j).2 = q2 at HST HF HE hle
        clear hc hg hd ho hj hjg hle hq
        go_wp2_with (first
          | (go_at_call 20; refine (unhide HO).mono ?_; rintro e w1 ⟨rfl, m1, rfl⟩)
          | (go_at_call 21; refine ((unhide HST) _).mono ?_; rintro e w2 ⟨rfl, hg2⟩; have HG2 := hide hg2; clear hg2))
        go_roundg g
        case measure => omega
        case rel => exact ⟨q2, (unhide HF).2.2.2, by have := unhide HF; omega, (unhide HE).symm.trans (unhide HC), ((unhide HG).dn _).then (unhide HG2)⟩

set_option maxRecDepth 8000 in
set_option maxHeartbeats 1000000 in
theorem prescan_nil (w : World) (cap n m : Nat) (t : ByteArray) (hmin : min (n : Int) 1024 = (m : Int)) (hmc : m ≤ cap) (ht : t.size = m) (hm : m ≤ 1024)
    (hbk : (convert 22 9 (.slice none m cap)).run Tryd.prog w = .ok (.string t) w) :
    Calls Tryd.prog 13 #[.slice none n cap] w fun e w' => e = .returned (.tuple #[.int .i64 (prescanF t.data.toList 1025 0).1, .int .i64 (prescanF t.data.toList 1025 0).2]) ∧ Below w.heap.size w w' := by
  have HM := hide (And.intro ht hm)
  have HG0 := hide (Gone.mk (sc_new w t) (Mod.refl (fun x => x = w.heap.size) (w.alloc (.cells #[.string t, .int .i64 0] 46))))
  obtain ⟨ans, hans⟩ : ∃ ans, prescanF t.data.toList 1025 0 = ans := ⟨_, rfl⟩
  rw [hans]
  have HANS := hide hans
  clear ht hm hans
  go_enter Tryd.func13, Tryd.ntmps13
  go_wp2
  go_loopg [] 1025 (fun g wx => ∃ k, k ≤ t.size ∧ t.size < g + k ∧ prescanF t.data.toList g k = ans ∧ Gone (w.alloc (.cells #[.string t, .int .i64 0] 46)) wx w.heap.size t k)
  case atStart => exact ⟨0, Nat.zero_le _, by have := unhide HM; omega, unhide HANS, unhide HG0⟩
  case round =>
    obtain ⟨j, hj, hjg, hc, hg⟩ := hrel
    have HC := hide hc
    have HG := hide hg
    have HO := hide (over_any hg.sc)
    by_cases ho : t.size ≤ j
    · have hd : decide (t.size ≤ j) = true := by simpa using ho
      rw [hd] at HO
      have HE := hide (prescanF_end (l := t.data.toList) (n := gk) (k := j) (by rw [len_data]; omega))
      clear hc hg hd ho hj hjg
      go_wp2_with (first | (go_at_call 20; refine (unhide HO).mono ?_; rintro e w1 ⟨rfl, m1, rfl⟩))
      go_ret2
      have h1 := (unhide HE).symm.trans (unhide HC)
      rw [← h1]
      exact ⟨rfl, ((unhide HG).dn _).old⟩
    · have hd : decide (t.size ≤ j) = false := by simpa using ho
      rw [hd] at HO
      obtain ⟨g, rfl⟩ : ∃ g, gk = g + 1 := ⟨gk - 1, by omega⟩
      have HST := hide (fun n => step_any (hg.sc.dn n) (by omega) (by have := unhide HM; unfold Small; omega))
      have hle := step_le (l := t.data.toList) (k := j) (by rw [len_data]; omega)
      rw [len_data] at hle
      have HF := hide (And.intro hj (And.intro hjg hle))
      cases hq : (stepM t.data.toList j).1.2 with
      | true =>
        have HE := hide (prescanF_yes (n := g) (by rw [len_data]; omega) hq)
        rw [hq] at HST
        generalize (stepM t.data.toList j).1.1 = q1 at HST HE
        generalize (stepM t.data.toList j).2 = q2 at HST HF hle
        clear hc hg hd ho hj hjg hle hq
        go_wp2_with (first
          | (go_at_call 20; refine (unhide HO).mono ?_; rintro e w1 ⟨rfl, m1, rfl⟩)
          | (go_at_call 21; refine ((unhide HST) _).mono ?_; rintro e w2 ⟨rfl, hg2⟩; have HG2 := hide hg2; clear hg2))
        go_ret2
        have h1 := (unhide HE).symm.trans (unhide HC)
        rw [← h1]
        exact ⟨rfl, (((unhide HG).dn _).then (unhide HG2)).old⟩
      | false =>
        have HE := hide (prescanF_no (n := g) (by rw [len_data]; omega) hq)
        rw [hq] at HST
        generalize (stepM t.data.toList j).1.1 = q1 at HST
        generalize (stepM t.data.toList j).2 = q2 at HST HF HE hle
        clear hc hg hd ho hj hjg hle hq
        go_wp2_with (first
          | (go_at_call 20; refine (unhide HO).mono ?_; rintro e w1 ⟨rfl, m1, rfl⟩)
          | (go_at_call 21; refine ((unhide HST) _).mono ?_; rintro e w2 ⟨rfl, hg2⟩; have HG2 := hide hg2; clear hg2))
        go_roundg g
        case measure => omega
        case rel => exact ⟨q2, (unhide HF).2.2.2, by have := unhide HF; omega, (unhide HE).symm.trans (unhide HC), ((unhide HG).dn _).then (unhide HG2)⟩

theorem prescan_any (w : World) (a : Option Addr) (cap : Nat) (l : List UInt8) (hb : BytesIn w a l) (hc : l.length ≤ cap) :
    Calls Tryd.prog 13 #[.slice a l.length cap] w fun e w' => e = .returned (.tuple #[.int .i64 (prescanM l).1, .int .i64 (prescanM l).2]) ∧ Below w.heap.size w w' := by
  cases hl : l with
  | nil =>
    have hp : prescanM [] = prescanF (⟨#[]⟩ : ByteArray).data.toList 1025 0 := rfl
    rw [hp]
    cases a with
    | none => exact prescan_nil w cap 0 0 ⟨#[]⟩ (by decide) (Nat.zero_le _) rfl (by decide) (by simp [convert, Conv.bytesToString, run_underlying Tryd.underlying22, run_underlying Tryd.underlying9, run_underlying Tryd.underlying5, Result.andThen]; rfl)
    | some x => exact prescan_some w x cap 0 0 ⟨#[]⟩ (by decide) (Nat.zero_le _) rfl (by decide) (run_convert_bytes_back (P := Tryd.prog) w 22 9 5 x cap [] Tryd.underlying22 Tryd.underlying5 Tryd.underlying9 (fun j hj => by simp at hj))
  | cons c r =>
    obtain ⟨b, off, rfl, _⟩ := hb.cells 0 c (by rw [hl]; rfl)
    rw [← hl]
    have hlen : (l.take 1024).length = min l.length 1024 := by rw [List.length_take, Nat.min_comm]
    have hbk := run_convert_bytes_back (P := Tryd.prog) w 22 9 5 ⟨b, off, none⟩ cap (l.take 1024) Tryd.underlying22 Tryd.underlying5 Tryd.underlying9 (fun j hj => by
      have hj' : j < l.length := by omega
      obtain ⟨b', off', e, hcell⟩ := hb.cells j l[j] (List.getElem?_eq_getElem hj')
      cases e
      have ad : (⟨b, off, none⟩ : Addr).add j = ⟨b, off + j, none⟩ := by unfold Addr.add; split <;> simp_all
      rw [ad, hcell, List.getElem_take])
    rw [hlen] at hbk
    have h := prescan_some w ⟨b, off, none⟩ cap l.length (min l.length 1024) ⟨(l.take 1024).toArray⟩ (by omega) (by omega) (by show (l.take 1024).toArray.size = _; rw [List.size_toArray, hlen]) (by omega) hbk
    exact h

theorem awake_in : prescanM [60, 109, 101, 116, 97, 32, 99, 104, 97, 114, 115, 101, 116, 61, 117, 116, 102, 45, 56, 62] = (0, 0) := by decide +kernel
theorem bytes_new (w : World) (l : List UInt8) (fr : Nat × Nat) : BytesIn (w.alloc (.cells (l.map (fun c => Value.int .u8 (c.toNat : Int))).toArray 5 fr)) (some ⟨w.heap.size, 0, none⟩) l := ⟨fun i x hi => by
  refine ⟨_, 0, rfl, ?_⟩
  have hb := heap_alloc_new w (.cells (l.map (fun c => Value.int .u8 (c.toNat : Int))).toArray 5 fr)
  rw [Nat.zero_add, cell_of_row _ w.heap.size i _ _ _ hb]
  simp [hi]⟩
theorem awake_bytes (w : World) : BytesIn (w.alloc (.cells #[.int .u8 60, .int .u8 109, .int .u8 101, .int .u8 116, .int .u8 97, .int .u8 32, .int .u8 99, .int .u8 104, .int .u8 97, .int .u8 114, .int .u8 115, .int .u8 101, .int .u8 116, .int .u8 61, .int .u8 117, .int .u8 116, .int .u8 102, .int .u8 45, .int .u8 56, .int .u8 62] 5 (20, 21))) (some ⟨w.heap.size, 0, none⟩) [60, 109, 101, 116, 97, 32, 99, 104, 97, 114, 115, 101, 116, 61, 117, 116, 102, 45, 56, 62] := bytes_new w [60, 109, 101, 116, 97, 32, 99, 104, 97, 114, 115, 101, 116, 61, 117, 116, 102, 45, 56, 62] (20, 21)
set_option maxRecDepth 8000 in
theorem awake_any (w : World) : Calls Tryd.prog 12 #[] w fun e w' => e = .returned (.bool true) ∧ Below w.heap.size w w' := by
  have HP := hide (prescan_any (w.alloc (.cells #[.int .u8 60, .int .u8 109, .int .u8 101, .int .u8 116, .int .u8 97, .int .u8 32, .int .u8 99, .int .u8 104, .int .u8 97, .int .u8 114, .int .u8 115, .int .u8 101, .int .u8 116, .int .u8 61, .int .u8 117, .int .u8 116, .int .u8 102, .int .u8 45, .int .u8 56, .int .u8 62] 5 (20, 21))) (some ⟨w.heap.size, 0, none⟩) 20 [60, 109, 101, 116, 97, 32, 99, 104, 97, 114, 115, 101, 116, 61, 117, 116, 102, 45, 56, 62] (awake_bytes w) (Nat.le_refl _))
  rw [awake_in] at HP
  have hcv : (convert 22 22 (.slice (some ⟨w.heap.size, 0, none⟩) 20 20)).run Tryd.prog (w.alloc (.cells #[.int .u8 60, .int .u8 109, .int .u8 101, .int .u8 116, .int .u8 97, .int .u8 32, .int .u8 99, .int .u8 104, .int .u8 97, .int .u8 114, .int .u8 115, .int .u8 101, .int .u8 116, .int .u8 61, .int .u8 117, .int .u8 116, .int .u8 102, .int .u8 45, .int .u8 56, .int .u8 62] 5)) = .ok (.slice (some ⟨w.heap.size, 0, none⟩) 20 20) (w.alloc (.cells #[.int .u8 60, .int .u8 109, .int .u8 101, .int .u8 116, .int .u8 97, .int .u8 32, .int .u8 99, .int .u8 104, .int .u8 97, .int .u8 114, .int .u8 115, .int .u8 101, .int .u8 116, .int .u8 61, .int .u8 117, .int .u8 116, .int .u8 102, .int .u8 45, .int .u8 56, .int .u8 62] 5 (20, 21))) := run_convert_bytes_const w 22 5 _ 20 20 Tryd.underlying22 Tryd.underlying5
  have HB0 := hide ((Below.refl w.heap.size w).alloc (Nat.le_refl _) (.cells #[.int .u8 60, .int .u8 109, .int .u8 101, .int .u8 116, .int .u8 97, .int .u8 32, .int .u8 99, .int .u8 104, .int .u8 97, .int .u8 114, .int .u8 115, .int .u8 101, .int .u8 116, .int .u8 61, .int .u8 117, .int .u8 116, .int .u8 102, .int .u8 45, .int .u8 56, .int .u8 62] 5 (20, 21)))
  go_enter Tryd.func12, Tryd.ntmps12
  go_wp2_with (go_at_call 13; refine (unhide HP).mono ?_; rintro e w1 ⟨rfl, hb⟩; have HB := hide ((unhide HB0).trans (hb.mono (unhide HB0).size)); clear hb)
  go_ret
  exact ⟨rfl, unhide HB⟩
end Go.Proofs.YtmikcdmlhocgbaaDoor
