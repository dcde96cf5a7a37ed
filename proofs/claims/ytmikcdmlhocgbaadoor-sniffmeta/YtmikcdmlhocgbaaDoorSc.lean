/-
  Package sniff's scanner: its asks, and pass.
-/
import Derived.Test.YtmikcdmlhocgbaaDoorSb
namespace Go.Proofs.YtmikcdmlhocgbaaDoor
open Go.RowKit Go.Lib

def askP (p : UInt8 → Bool) (l : List UInt8) (k : Nat) : Bool := match l[k]? with | some c => p c | none => false
def passP (p : UInt8 → Bool) (l : List UInt8) (k : Nat) : Nat := k + ((l.drop k).takeWhile p).length
theorem passP_yes {p : UInt8 → Bool} {l : List UInt8} {k : Nat} (h : askP p l k = true) : k < l.length ∧ passP p l k = passP p l (k + 1) := by
  unfold askP at h
  cases e : l[k]? with
  | none => rw [e] at h; cases h
  | some c =>
    rw [e] at h
    obtain ⟨hlt, hc⟩ := List.getElem?_eq_some_iff.1 e
    refine ⟨hlt, ?_⟩
    unfold passP
    rw [List.drop_eq_getElem_cons hlt, hc, List.takeWhile_cons]
    simp only at h
    rw [h]
    simp
    omega
theorem passP_no {p : UInt8 → Bool} {l : List UInt8} {k : Nat} (h : askP p l k = false) : passP p l k = k := by
  unfold passP
  by_cases hlt : k < l.length
  · unfold askP at h
    rw [List.getElem?_eq_getElem hlt] at h
    rw [List.drop_eq_getElem_cons hlt, List.takeWhile_cons]
    simp only at h
    rw [h]
    simp
  · rw [List.drop_eq_nil_of_le (by omega)]
    rfl
theorem passP_le {p : UInt8 → Bool} {l : List UInt8} {k : Nat} (h : k ≤ l.length) : k ≤ passP p l k ∧ passP p l k ≤ l.length := by
  unfold passP
  have := (List.takeWhile_sublist p (l := l.drop k)).length_le
  rw [List.length_drop] at this
  omega
theorem among_ask (cs l : List UInt8) (k : Nat) : amongM l k cs = askP (cs.contains ·) l k := rfl

def blanks : List UInt8 := [9, 10, 12, 13, 32]
def gapP (c : UInt8) : Bool := [9, 10, 12, 13, 32, 47].contains c
def blankP (c : UInt8) : Bool := blanks.contains c
def nameP (c : UInt8) : Bool := ![9, 10, 12, 13, 32, 47, 62, 61].contains c
def wordP (c : UInt8) : Bool := ![9, 10, 12, 13, 32, 62].contains c
def charP (c : UInt8) : Bool := ![9, 10, 12, 13, 32, 59].contains c

theorem askP_over {p : UInt8 → Bool} {t : ByteArray} {k : Nat} (h : t.size ≤ k) : askP p t.data.toList k = false := by
  unfold askP
  rw [List.getElem?_eq_none (by rw [len_data]; exact h)]
theorem out_ask {cs : List UInt8} {p : UInt8 → Bool} (hp : ∀ c, p c = !cs.contains c) {t : ByteArray} {k : Nat} (h : ¬ t.size ≤ k) : askP p t.data.toList k = !amongM t.data.toList k cs := by
  unfold askP amongM
  rw [Lib.data_getElem? t k (by omega)]
  exact hp _

section
variable {w w' : World} {b : Nat} {t : ByteArray} {k : Nat}

theorem among0 (h : Sc w b t k) (x : ByteArray) (hs : Small t) (hk : k ≤ t.size) :
    Calls Tryd.prog 40 #[.pointer (some ⟨b, 0, none⟩), .int .i64 0, .string x] w fun e w' => e = .returned (.bool (amongM t.data.toList k x.data.toList)) ∧ w' = w := by
  unfold Small at hs
  exact among_any h 0 x (by omega)

theorem atBlank_any (h : Sc w b t k) (hs : Small t) (hk : k ≤ t.size) :
    Calls Tryd.prog 31 #[.pointer (some ⟨b, 0, none⟩)] w fun e w' => e = .returned (.bool (askP blankP t.data.toList k)) ∧ ∃ n, w' = w.drewN n := by
  have HA : Hid (Calls Tryd.prog 40 #[.pointer (some ⟨b, 0, none⟩), .int .i64 0, .string ⟨#[9, 10, 12, 13, 32]⟩] w fun e w' => e = .returned (.bool (askP blankP t.data.toList k)) ∧ w' = w) := hide (among0 h ⟨#[9, 10, 12, 13, 32]⟩ hs hk)
  generalize askP blankP t.data.toList k = r at HA ⊢
  clear h hs hk
  go_enter Tryd.func31, Tryd.ntmps31
  go_wp2_with (first | (go_at_call 40; refine (unhide HA).mono ?_; rintro e w1 ⟨rfl, rfl⟩))
  go_ret
  exact ⟨rfl, 0, rfl⟩

theorem atGap_any (h : Sc w b t k) (hs : Small t) (hk : k ≤ t.size) :
    Calls Tryd.prog 67 #[.pointer (some ⟨b, 0, none⟩)] w fun e w' => e = .returned (.bool (askP gapP t.data.toList k)) ∧ ∃ n, w' = w.drewN n := by
  have HA : Hid (Calls Tryd.prog 40 #[.pointer (some ⟨b, 0, none⟩), .int .i64 0, .string ⟨#[9, 10, 12, 13, 32, 47]⟩] w fun e w' => e = .returned (.bool (askP gapP t.data.toList k)) ∧ w' = w) := hide (among0 h ⟨#[9, 10, 12, 13, 32, 47]⟩ hs hk)
  generalize askP gapP t.data.toList k = r at HA ⊢
  clear h hs hk
  go_enter Tryd.func67, Tryd.ntmps67
  go_wp2_with (first | (go_at_call 40; refine (unhide HA).mono ?_; rintro e w1 ⟨rfl, rfl⟩))
  go_ret
  exact ⟨rfl, 0, rfl⟩

theorem inName_any (h : Sc w b t k) (hs : Small t) (hk : k ≤ t.size) :
    Calls Tryd.prog 79 #[.pointer (some ⟨b, 0, none⟩)] w fun e w' => e = .returned (.bool (askP nameP t.data.toList k)) ∧ ∃ n, w' = w.drewN n := by
  have HO := hide (over_any h)
  by_cases ho : t.size ≤ k
  · rw [askP_over ho]
    have hd : decide (t.size ≤ k) = true := by simpa using ho
    rw [hd] at HO
    clear h hs hk ho hd
    go_enter Tryd.func79, Tryd.ntmps79
    go_wp2_with (first | (go_at_call 20; refine (unhide HO).mono ?_; rintro e w1 ⟨rfl, n, rfl⟩))
    go_ret
    exact ⟨rfl, _, rfl⟩
  · rw [out_ask (p := nameP) (cs := [9, 10, 12, 13, 32, 47, 62, 61]) (fun c => rfl) ho]
    have hd : decide (t.size ≤ k) = false := by simpa using ho
    rw [hd] at HO
    have HA : Hid (∀ n, Calls Tryd.prog 40 #[.pointer (some ⟨b, 0, none⟩), .int .i64 0, .string ⟨#[9, 10, 12, 13, 32, 47, 62, 61]⟩] (w.drewN n) fun e w' => e = .returned (.bool (amongM t.data.toList k [9, 10, 12, 13, 32, 47, 62, 61])) ∧ w' = w.drewN n) := hide (fun n => among0 (h.dn n) ⟨#[9, 10, 12, 13, 32, 47, 62, 61]⟩ hs hk)
    generalize amongM t.data.toList k [9, 10, 12, 13, 32, 47, 62, 61] = r at HA ⊢
    clear h hs hk ho hd
    go_enter Tryd.func79, Tryd.ntmps79
    go_wp2_with (first
      | (go_at_call 20; refine (unhide HO).mono ?_; rintro e w1 ⟨rfl, n, rfl⟩)
      | (go_at_call 40; refine ((unhide HA) _).mono ?_; rintro e w1 ⟨rfl, rfl⟩))
    go_ret
    exact ⟨rfl, _, rfl⟩

theorem inWord_any (h : Sc w b t k) (hs : Small t) (hk : k ≤ t.size) :
    Calls Tryd.prog 43 #[.pointer (some ⟨b, 0, none⟩)] w fun e w' => e = .returned (.bool (askP wordP t.data.toList k)) ∧ ∃ n, w' = w.drewN n := by
  have HO := hide (over_any h)
  by_cases ho : t.size ≤ k
  · rw [askP_over ho]
    have hd : decide (t.size ≤ k) = true := by simpa using ho
    rw [hd] at HO
    clear h hs hk ho hd
    go_enter Tryd.func43, Tryd.ntmps43
    go_wp2_with (first | (go_at_call 20; refine (unhide HO).mono ?_; rintro e w1 ⟨rfl, n, rfl⟩))
    go_ret
    exact ⟨rfl, _, rfl⟩
  · rw [out_ask (p := wordP) (cs := [9, 10, 12, 13, 32, 62]) (fun c => rfl) ho]
    have hd : decide (t.size ≤ k) = false := by simpa using ho
    rw [hd] at HO
    have HA : Hid (∀ n, Calls Tryd.prog 40 #[.pointer (some ⟨b, 0, none⟩), .int .i64 0, .string ⟨#[9, 10, 12, 13, 32, 62]⟩] (w.drewN n) fun e w' => e = .returned (.bool (amongM t.data.toList k [9, 10, 12, 13, 32, 62])) ∧ w' = w.drewN n) := hide (fun n => among0 (h.dn n) ⟨#[9, 10, 12, 13, 32, 62]⟩ hs hk)
    generalize amongM t.data.toList k [9, 10, 12, 13, 32, 62] = r at HA ⊢
    clear h hs hk ho hd
    go_enter Tryd.func43, Tryd.ntmps43
    go_wp2_with (first
      | (go_at_call 20; refine (unhide HO).mono ?_; rintro e w1 ⟨rfl, n, rfl⟩)
      | (go_at_call 40; refine ((unhide HA) _).mono ?_; rintro e w1 ⟨rfl, rfl⟩))
    go_ret
    exact ⟨rfl, _, rfl⟩

theorem inCharset_any (h : Sc w b t k) (hs : Small t) (hk : k ≤ t.size) :
    Calls Tryd.prog 51 #[.pointer (some ⟨b, 0, none⟩)] w fun e w' => e = .returned (.bool (askP charP t.data.toList k)) ∧ ∃ n, w' = w.drewN n := by
  have HO := hide (over_any h)
  by_cases ho : t.size ≤ k
  · rw [askP_over ho]
    have hd : decide (t.size ≤ k) = true := by simpa using ho
    rw [hd] at HO
    clear h hs hk ho hd
    go_enter Tryd.func51, Tryd.ntmps51
    go_wp2_with (first | (go_at_call 20; refine (unhide HO).mono ?_; rintro e w1 ⟨rfl, n, rfl⟩))
    go_ret
    exact ⟨rfl, _, rfl⟩
  · rw [out_ask (p := charP) (cs := [9, 10, 12, 13, 32, 59]) (fun c => rfl) ho]
    have hd : decide (t.size ≤ k) = false := by simpa using ho
    rw [hd] at HO
    have HA : Hid (∀ n, Calls Tryd.prog 40 #[.pointer (some ⟨b, 0, none⟩), .int .i64 0, .string ⟨#[9, 10, 12, 13, 32, 59]⟩] (w.drewN n) fun e w' => e = .returned (.bool (amongM t.data.toList k [9, 10, 12, 13, 32, 59])) ∧ w' = w.drewN n) := hide (fun n => among0 (h.dn n) ⟨#[9, 10, 12, 13, 32, 59]⟩ hs hk)
    generalize amongM t.data.toList k [9, 10, 12, 13, 32, 59] = r at HA ⊢
    clear h hs hk ho hd
    go_enter Tryd.func51, Tryd.ntmps51
    go_wp2_with (first
      | (go_at_call 20; refine (unhide HO).mono ?_; rintro e w1 ⟨rfl, n, rfl⟩)
      | (go_at_call 40; refine ((unhide HA) _).mono ?_; rintro e w1 ⟨rfl, rfl⟩))
    go_ret
    exact ⟨rfl, _, rfl⟩

set_option maxHeartbeats 1000000 in
theorem passBlank (h : Sc w b t k) (hs : Small t) (hk : k ≤ t.size) :
    Calls Tryd.prog 30 #[.pointer (some ⟨b, 0, none⟩), .func (.func 31) #[.pointer (some ⟨b, 0, none⟩)] #[]] w fun e w' => e = .returned (.tuple #[]) ∧ Sc w' b t (passP blankP t.data.toList k) ∧ Mod (· = b) w w' := by
  have HS := hide h
  have HM := hide hs
  have HK := hide hk
  clear h hs hk
  go_enter Tryd.func30, Tryd.ntmps30
  go_wp2
  go_loopg [] (t.size - k) (fun g wx => ∃ j : Nat, j + g = t.size ∧ passP blankP t.data.toList j = passP blankP t.data.toList k ∧ Sc wx b t j ∧ Mod (· = b) w wx)
  case atStart => exact ⟨k, by have := unhide HK; omega, rfl, unhide HS, Mod.refl _ _⟩
  case round =>
    obtain ⟨j, hjg, hp, hsc, hmod⟩ := hrel
    have HP := hide hp
    have HSC := hide hsc
    have HMO := hide hmod
    have HA := hide (atBlank_any hsc (unhide HM) (by omega))
    have hw : IntKind.i64.wrap ((j : Int) + 1) = (j : Int) + 1 := by have := unhide HM; unfold Small at this; exact wrap_add j 1 (by omega) (by omega)
    obtain ⟨c0, c1, cf⟩ := hsc.cells
    have cf1 := cf 1
    clear hp hsc hmod cf
    cases hr : askP blankP t.data.toList j with
    | true =>
      obtain ⟨hlt, hnext⟩ := passP_yes hr
      rw [len_data] at hlt
      rw [hr] at HA
      have HN := hide hnext
      clear hr hnext
      go_wp2_with (first | (go_at_call 31; refine (unhide HA).mono ?_; rintro e w1 ⟨rfl, n, rfl⟩))
      go_roundg (gk - 1)
      case measure => omega
      case rel => exact ⟨j + 1, by omega, by rw [← unhide HN, unhide HP], by first | exact ((unhide HSC).dn n).set (j + 1) | skip, ((unhide HMO).trans (Mod.of_below (below_dr _ n))).trans (Mod.setCell _ _ _ rfl)⟩
    | false =>
      have hno := passP_no hr
      rw [hr] at HA
      have HN := hide hno
      clear hr hno
      go_wp2_with (first | (go_at_call 31; refine (unhide HA).mono ?_; rintro e w1 ⟨rfl, n, rfl⟩))
      go_end0
      exact ⟨rfl, by rw [← unhide HP, unhide HN]; exact (unhide HSC).dn n, (unhide HMO).trans (Mod.of_below (below_dr _ n))⟩

set_option maxHeartbeats 1000000 in
theorem passGap (h : Sc w b t k) (hs : Small t) (hk : k ≤ t.size) :
    Calls Tryd.prog 30 #[.pointer (some ⟨b, 0, none⟩), .func (.func 67) #[.pointer (some ⟨b, 0, none⟩)] #[]] w fun e w' => e = .returned (.tuple #[]) ∧ Sc w' b t (passP gapP t.data.toList k) ∧ Mod (· = b) w w' := by
  have HS := hide h
  have HM := hide hs
  have HK := hide hk
  clear h hs hk
  go_enter Tryd.func30, Tryd.ntmps30
  go_wp2
  go_loopg [] (t.size - k) (fun g wx => ∃ j : Nat, j + g = t.size ∧ passP gapP t.data.toList j = passP gapP t.data.toList k ∧ Sc wx b t j ∧ Mod (· = b) w wx)
  case atStart => exact ⟨k, by have := unhide HK; omega, rfl, unhide HS, Mod.refl _ _⟩
  case round =>
    obtain ⟨j, hjg, hp, hsc, hmod⟩ := hrel
    have HP := hide hp
    have HSC := hide hsc
    have HMO := hide hmod
    have HA := hide (atGap_any hsc (unhide HM) (by omega))
    have hw : IntKind.i64.wrap ((j : Int) + 1) = (j : Int) + 1 := by have := unhide HM; unfold Small at this; exact wrap_add j 1 (by omega) (by omega)
    obtain ⟨c0, c1, cf⟩ := hsc.cells
    have cf1 := cf 1
    clear hp hsc hmod cf
    cases hr : askP gapP t.data.toList j with
    | true =>
      obtain ⟨hlt, hnext⟩ := passP_yes hr
      rw [len_data] at hlt
      rw [hr] at HA
      have HN := hide hnext
      clear hr hnext
      go_wp2_with (first | (go_at_call 67; refine (unhide HA).mono ?_; rintro e w1 ⟨rfl, n, rfl⟩))
      go_roundg (gk - 1)
      case measure => omega
      case rel => exact ⟨j + 1, by omega, by rw [← unhide HN, unhide HP], by first | exact ((unhide HSC).dn n).set (j + 1) | skip, ((unhide HMO).trans (Mod.of_below (below_dr _ n))).trans (Mod.setCell _ _ _ rfl)⟩
    | false =>
      have hno := passP_no hr
      rw [hr] at HA
      have HN := hide hno
      clear hr hno
      go_wp2_with (first | (go_at_call 67; refine (unhide HA).mono ?_; rintro e w1 ⟨rfl, n, rfl⟩))
      go_end0
      exact ⟨rfl, by rw [← unhide HP, unhide HN]; exact (unhide HSC).dn n, (unhide HMO).trans (Mod.of_below (below_dr _ n))⟩

set_option maxHeartbeats 1000000 in
theorem passName (h : Sc w b t k) (hs : Small t) (hk : k ≤ t.size) :
    Calls Tryd.prog 30 #[.pointer (some ⟨b, 0, none⟩), .func (.func 79) #[.pointer (some ⟨b, 0, none⟩)] #[]] w fun e w' => e = .returned (.tuple #[]) ∧ Sc w' b t (passP nameP t.data.toList k) ∧ Mod (· = b) w w' := by
  have HS := hide h
  have HM := hide hs
  have HK := hide hk
  clear h hs hk
  go_enter Tryd.func30, Tryd.ntmps30
  go_wp2
  go_loopg [] (t.size - k) (fun g wx => ∃ j : Nat, j + g = t.size ∧ passP nameP t.data.toList j = passP nameP t.data.toList k ∧ Sc wx b t j ∧ Mod (· = b) w wx)
  case atStart => exact ⟨k, by have := unhide HK; omega, rfl, unhide HS, Mod.refl _ _⟩
  case round =>
    obtain ⟨j, hjg, hp, hsc, hmod⟩ := hrel
    have HP := hide hp
    have HSC := hide hsc
    have HMO := hide hmod
    have HA := hide (inName_any hsc (unhide HM) (by omega))
    have hw : IntKind.i64.wrap ((j : Int) + 1) = (j : Int) + 1 := by have := unhide HM; unfold Small at this; exact wrap_add j 1 (by omega) (by omega)
    obtain ⟨c0, c1, cf⟩ := hsc.cells
    have cf1 := cf 1
    clear hp hsc hmod cf
    cases hr : askP nameP t.data.toList j with
    | true =>
      obtain ⟨hlt, hnext⟩ := passP_yes hr
      rw [len_data] at hlt
      rw [hr] at HA
      have HN := hide hnext
      clear hr hnext
      go_wp2_with (first | (go_at_call 79; refine (unhide HA).mono ?_; rintro e w1 ⟨rfl, n, rfl⟩))
      go_roundg (gk - 1)
      case measure => omega
      case rel => exact ⟨j + 1, by omega, by rw [← unhide HN, unhide HP], by first | exact ((unhide HSC).dn n).set (j + 1) | skip, ((unhide HMO).trans (Mod.of_below (below_dr _ n))).trans (Mod.setCell _ _ _ rfl)⟩
    | false =>
      have hno := passP_no hr
      rw [hr] at HA
      have HN := hide hno
      clear hr hno
      go_wp2_with (first | (go_at_call 79; refine (unhide HA).mono ?_; rintro e w1 ⟨rfl, n, rfl⟩))
      go_end0
      exact ⟨rfl, by rw [← unhide HP, unhide HN]; exact (unhide HSC).dn n, (unhide HMO).trans (Mod.of_below (below_dr _ n))⟩

set_option maxHeartbeats 1000000 in
theorem passWord (h : Sc w b t k) (hs : Small t) (hk : k ≤ t.size) :
    Calls Tryd.prog 30 #[.pointer (some ⟨b, 0, none⟩), .func (.func 43) #[.pointer (some ⟨b, 0, none⟩)] #[]] w fun e w' => e = .returned (.tuple #[]) ∧ Sc w' b t (passP wordP t.data.toList k) ∧ Mod (· = b) w w' := by
  have HS := hide h
  have HM := hide hs
  have HK := hide hk
  clear h hs hk
  go_enter Tryd.func30, Tryd.ntmps30
  go_wp2
  go_loopg [] (t.size - k) (fun g wx => ∃ j : Nat, j + g = t.size ∧ passP wordP t.data.toList j = passP wordP t.data.toList k ∧ Sc wx b t j ∧ Mod (· = b) w wx)
  case atStart => exact ⟨k, by have := unhide HK; omega, rfl, unhide HS, Mod.refl _ _⟩
  case round =>
    obtain ⟨j, hjg, hp, hsc, hmod⟩ := hrel
    have HP := hide hp
    have HSC := hide hsc
    have HMO := hide hmod
    have HA := hide (inWord_any hsc (unhide HM) (by omega))
    have hw : IntKind.i64.wrap ((j : Int) + 1) = (j : Int) + 1 := by have := unhide HM; unfold Small at this; exact wrap_add j 1 (by omega) (by omega)
    obtain ⟨c0, c1, cf⟩ := hsc.cells
    have cf1 := cf 1
    clear hp hsc hmod cf
    cases hr : askP wordP t.data.toList j with
    | true =>
      obtain ⟨hlt, hnext⟩ := passP_yes hr
      rw [len_data] at hlt
      rw [hr] at HA
      have HN := hide hnext
      clear hr hnext
      go_wp2_with (first | (go_at_call 43; refine (unhide HA).mono ?_; rintro e w1 ⟨rfl, n, rfl⟩))
      go_roundg (gk - 1)
      case measure => omega
      case rel => exact ⟨j + 1, by omega, by rw [← unhide HN, unhide HP], by first | exact ((unhide HSC).dn n).set (j + 1) | skip, ((unhide HMO).trans (Mod.of_below (below_dr _ n))).trans (Mod.setCell _ _ _ rfl)⟩
    | false =>
      have hno := passP_no hr
      rw [hr] at HA
      have HN := hide hno
      clear hr hno
      go_wp2_with (first | (go_at_call 43; refine (unhide HA).mono ?_; rintro e w1 ⟨rfl, n, rfl⟩))
      go_end0
      exact ⟨rfl, by rw [← unhide HP, unhide HN]; exact (unhide HSC).dn n, (unhide HMO).trans (Mod.of_below (below_dr _ n))⟩

set_option maxHeartbeats 1000000 in
theorem passChar (h : Sc w b t k) (hs : Small t) (hk : k ≤ t.size) :
    Calls Tryd.prog 30 #[.pointer (some ⟨b, 0, none⟩), .func (.func 51) #[.pointer (some ⟨b, 0, none⟩)] #[]] w fun e w' => e = .returned (.tuple #[]) ∧ Sc w' b t (passP charP t.data.toList k) ∧ Mod (· = b) w w' := by
  have HS := hide h
  have HM := hide hs
  have HK := hide hk
  clear h hs hk
  go_enter Tryd.func30, Tryd.ntmps30
  go_wp2
  go_loopg [] (t.size - k) (fun g wx => ∃ j : Nat, j + g = t.size ∧ passP charP t.data.toList j = passP charP t.data.toList k ∧ Sc wx b t j ∧ Mod (· = b) w wx)
  case atStart => exact ⟨k, by have := unhide HK; omega, rfl, unhide HS, Mod.refl _ _⟩
  case round =>
    obtain ⟨j, hjg, hp, hsc, hmod⟩ := hrel
    have HP := hide hp
    have HSC := hide hsc
    have HMO := hide hmod
    have HA := hide (inCharset_any hsc (unhide HM) (by omega))
    have hw : IntKind.i64.wrap ((j : Int) + 1) = (j : Int) + 1 := by have := unhide HM; unfold Small at this; exact wrap_add j 1 (by omega) (by omega)
    obtain ⟨c0, c1, cf⟩ := hsc.cells
    have cf1 := cf 1
    clear hp hsc hmod cf
    cases hr : askP charP t.data.toList j with
    | true =>
      obtain ⟨hlt, hnext⟩ := passP_yes hr
      rw [len_data] at hlt
      rw [hr] at HA
      have HN := hide hnext
      clear hr hnext
      go_wp2_with (first | (go_at_call 51; refine (unhide HA).mono ?_; rintro e w1 ⟨rfl, n, rfl⟩))
      go_roundg (gk - 1)
      case measure => omega
      case rel => exact ⟨j + 1, by omega, by rw [← unhide HN, unhide HP], by first | exact ((unhide HSC).dn n).set (j + 1) | skip, ((unhide HMO).trans (Mod.of_below (below_dr _ n))).trans (Mod.setCell _ _ _ rfl)⟩
    | false =>
      have hno := passP_no hr
      rw [hr] at HA
      have HN := hide hno
      clear hr hno
      go_wp2_with (first | (go_at_call 51; refine (unhide HA).mono ?_; rintro e w1 ⟨rfl, n, rfl⟩))
      go_end0
      exact ⟨rfl, by rw [← unhide HP, unhide HN]; exact (unhide HSC).dn n, (unhide HMO).trans (Mod.of_below (below_dr _ n))⟩
end
end Go.Proofs.YtmikcdmlhocgbaaDoor
