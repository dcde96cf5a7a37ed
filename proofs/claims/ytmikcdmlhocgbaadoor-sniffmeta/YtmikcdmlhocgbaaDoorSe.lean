/-
  Package sniff's scanner: findBehind, quoted, charset; Content.
-/
import Derived.Test.YtmikcdmlhocgbaaDoorSd
import Derived.Test.YtmikcdmlhocgbaaDoorLd
import Derived.Test.YtmikcdmlhocgbaaDoorSi
namespace Go.Proofs.YtmikcdmlhocgbaaDoor
open Go.RowKit Go.Lib

/-- Behind the first x from a place on; the end, if there is none. -/
def behindM (x l : List UInt8) (k : Nat) : Nat := if findM x l k < l.length then findM x l k + x.length else findM x l k
/-- What stands between the mark at a place and the same one further on, and the place behind. -/
def quotedM (l : List UInt8) (k : Nat) : Option (List UInt8) × Nat :=
  match l[k]? with
  | some c => if findM [c] l (k + 1) < l.length then (some ((l.take (findM [c] l (k + 1))).drop (k + 1)), findM [c] l (k + 1) + 1) else (none, findM [c] l (k + 1))
  | none => (none, k)
def quotesL : List UInt8 := [34, 39]
def charsetM (l : List UInt8) (k : Nat) : Option (List UInt8) × Nat :=
  if l.length ≤ passP blankP l (k + 1) then (none, passP blankP l (k + 1))
  else if amongM l (passP blankP l (k + 1)) quotesL then quotedM l (passP blankP l (k + 1))
  else (some ((l.take (passP charP l (passP blankP l (k + 1)))).drop (passP blankP l (k + 1))), passP charP l (passP blankP l (k + 1)))
def optV (o : Option (List UInt8)) : Value := .tuple #[.string ⟨(o.getD []).toArray⟩, .bool o.isSome]
theorem extract_eq (t : ByteArray) (a c : Nat) : t.extract a c = ⟨((t.data.toList.take c).drop a).toArray⟩ := by
  apply ByteArray.ext
  apply Array.toList_inj.1
  rw [extract_list]

theorem quotedM_le {l : List UInt8} {k : Nat} (hk : k < l.length) : (quotedM l k).2 ≤ l.length := by
  unfold quotedM
  rw [List.getElem?_eq_getElem hk]
  simp only
  have := findM_spec (x := [l[k]]) (l := l) (k := k + 1) rfl (by omega)
  split
  · simp only; omega
  · simp only; omega

section
variable {w w' : World} {b : Nat} {t : ByteArray} {k : Nat}

theorem findBehind_any (h : Sc w b t k) (hk : k ≤ t.size) (hs : Small t) (x : ByteArray) (hx0 : 0 < x.size) (hx : x.size ≤ 100) :
    Calls Tryd.prog 39 #[.pointer (some ⟨b, 0, none⟩), .string x] w fun e w' => e = .returned (.tuple #[]) ∧ Gone w w' b t (behindM x.data.toList t.data.toList k) := by
  have HF := hide (find_any h hk hs x hx0 hx)
  unfold behindM
  rw [len_data]
  have hle := (findM_spec (x := x.data.toList) (l := t.data.toList) (k := k) rfl (by rw [len_data]; exact hk)).2.1
  rw [len_data] at hle
  have hwr : IntKind.i64.wrap ((findM x.data.toList t.data.toList k : Int) + (x.size : Int)) = (findM x.data.toList t.data.toList k : Int) + (x.size : Int) := by unfold Small at hs; exact wrap_add _ _ (by omega) (by omega)
  rw [len_data]
  generalize findM x.data.toList t.data.toList k = q at HF hwr hle ⊢
  clear h hk hs
  by_cases hq : q < t.size
  · rw [if_pos hq]
    have hd : decide (q < t.size) = true := by simpa using hq
    rw [hd] at HF
    clear hd hq hle
    go_enter Tryd.func39, Tryd.ntmps39
    go_wp2_with (first | (go_at_call 29; refine (unhide HF).mono ?_; rintro e w1 ⟨rfl, hg⟩; obtain ⟨c0, c1, cf⟩ := hg.sc.cells; have cf1 := cf 1; have HG := hide hg; clear hg cf))
    go_end0
    exact ⟨rfl, by first | exact (unhide HG).set (q + x.size) | skip⟩
  · rw [if_neg hq]
    have hd : decide (q < t.size) = false := by simpa using hq
    rw [hd] at HF
    clear hd hq hle hwr
    go_enter Tryd.func39, Tryd.ntmps39
    go_wp2_with (first | (go_at_call 29; refine (unhide HF).mono ?_; rintro e w1 ⟨rfl, hg⟩; have HG := hide hg; clear hg))
    go_end0
    exact ⟨rfl, unhide HG⟩

set_option maxHeartbeats 1000000 in
theorem quoted_any (h : Sc w b t k) (hk : k < t.size) (hs : Small t) :
    Calls Tryd.prog 50 #[.pointer (some ⟨b, 0, none⟩)] w fun e w' => e = .returned (optV (quotedM t.data.toList k).1) ∧ Gone w w' b t (quotedM t.data.toList k).2 := by
  obtain ⟨c0, c1, cf⟩ := h.cells
  have cf1 := cf 1
  have hkz : (k : Int) < (t.size : Int) := by omega
  have hkz1 : (k : Int) + 1 ≤ (t.size : Int) := by omega
  have hw : IntKind.i64.wrap ((k : Int) + 1) = (k : Int) + 1 := by unfold Small at hs; exact wrap_add k 1 (by omega) (by omega)
  have hm : (t.extract k (k + 1)).data.toList = [t[k]'hk] := by
    rw [extract_list, List.take_succ_eq_append_getElem (by rw [len_data]; exact hk)]
    have h1 : (t.data.toList.take k).length = k := by rw [List.length_take, len_data]; omega
    rw [List.drop_append_of_le_length (by omega), List.drop_of_length_le (by omega)]
    rfl
  have hms : (t.extract k (k + 1)).size = 1 := by rw [ByteArray.size_extract]; omega
  unfold quotedM
  rw [Lib.data_getElem? t k hk]
  simp only
  rw [len_data]
  have hsp := findM_spec (x := [t[k]'hk]) (l := t.data.toList) (k := k + 1) rfl (by rw [len_data]; omega)
  rw [len_data] at hsp
  have HF : Hid (∀ n, Calls Tryd.prog 29 #[.pointer (some ⟨b, 0, none⟩), .string (t.extract k (k + 1))] ((w.drewN n).setCell ⟨b, 1, none⟩ (.int .i64 ((k : Int) + 1))) fun e w' => e = .returned (.bool (decide (findM [t[k]'hk] t.data.toList (k + 1) < t.size))) ∧ Gone w w' b t (findM [t[k]'hk] t.data.toList (k + 1))) := hide (fun n => by
    have := find_any ((h.dn n).set (k + 1)) (by omega) hs (t.extract k (k + 1)) (by omega) (by omega)
    rw [hm] at this
    exact this.mono fun e w' ⟨h1, h2⟩ => ⟨h1, (((Gone.refl h).dn n).set (k + 1)).then h2⟩)
  generalize findM [t[k]'hk] t.data.toList (k + 1) = q at HF hsp ⊢
  have hwq : IntKind.i64.wrap ((q : Int) + 1) = (q : Int) + 1 := by unfold Small at hs; exact wrap_add q 1 (by omega) (by omega)
  have hq1 : (k : Int) + 1 ≤ (q : Int) := by omega
  have hq2 : (q : Int) ≤ (t.size : Int) := by omega
  have HX := hide (extract_eq t (k + 1) q)
  generalize hmk : t.extract k (k + 1) = mk at hm hms HF
  clear hm hms hsp hs h cf
  by_cases hq : q < t.size
  · rw [if_pos hq]
    have hd : decide (q < t.size) = true := by simpa using hq
    rw [hd] at HF
    clear hd
    go_enter Tryd.func50, Tryd.ntmps50
    go_wp2
    go_quiet (fail)
    go_wp2_with (first | (go_at_call 29; refine ((unhide HF) _).mono ?_; rintro e w1 ⟨rfl, hg⟩; obtain ⟨d0, d1, df⟩ := hg.sc.cells; have df1 := df 1; have HG := hide hg; clear hg df))
    go_quiet (fail)
    go_wp2
    go_ret2
    have e1 : optV (some ((t.data.toList.take q).drop (k + 1))) = .tuple #[.string (t.extract (k + 1) q), .bool true] := by unfold optV; rw [unhide HX]; rfl
    rw [e1]
    exact ⟨rfl, ((unhide HG).dn _).set (q + 1)⟩
  · rw [if_neg hq]
    have hd : decide (q < t.size) = false := by simpa using hq
    rw [hd] at HF
    clear hd
    go_enter Tryd.func50, Tryd.ntmps50
    go_wp2
    go_quiet (fail)
    go_wp2_with (first | (go_at_call 29; refine ((unhide HF) _).mono ?_; rintro e w1 ⟨rfl, hg⟩; have HG := hide hg; clear hg))
    go_ret2
    exact ⟨rfl, unhide HG⟩

theorem passGone {p : UInt8 → Bool} {fv : Value} (hp : Calls Tryd.prog 30 #[.pointer (some ⟨b, 0, none⟩), fv] w' fun e w'' => e = .returned (.tuple #[]) ∧ Sc w'' b t (passP p t.data.toList k) ∧ Mod (· = b) w' w'') (h : Gone w w' b t k) :
    Calls Tryd.prog 30 #[.pointer (some ⟨b, 0, none⟩), fv] w' fun e w'' => e = .returned (.tuple #[]) ∧ Gone w w'' b t (passP p t.data.toList k) :=
  hp.mono fun _ _ ⟨h1, h2, h3⟩ => ⟨h1, h.then ⟨h2, h3⟩⟩

set_option maxHeartbeats 1000000 in
theorem charset_any (h : Sc w b t k) (hk : k < t.size) (hs : Small t) :
    Calls Tryd.prog 33 #[.pointer (some ⟨b, 0, none⟩)] w fun e w' => e = .returned (optV (charsetM t.data.toList k).1) ∧ Gone w w' b t (charsetM t.data.toList k).2 := by
  obtain ⟨c0, c1, cf⟩ := h.cells
  have cf1 := cf 1
  have hw : IntKind.i64.wrap ((k : Int) + 1) = (k : Int) + 1 := by unfold Small at hs; exact wrap_add k 1 (by omega) (by omega)
  have HP1 : Hid (Calls Tryd.prog 30 #[.pointer (some ⟨b, 0, none⟩), .func (.func 31) #[.pointer (some ⟨b, 0, none⟩)] #[]] (w.setCell ⟨b, 1, none⟩ (.int .i64 ((k : Int) + 1))) fun e w' => e = .returned (.tuple #[]) ∧ Gone w w' b t (passP blankP t.data.toList (k + 1))) := hide (passGone (passBlank (h.set (k + 1)) hs (by omega)) ((Gone.refl h).set (k + 1)))
  have hle := passP_le (p := blankP) (l := t.data.toList) (k := k + 1) (by rw [len_data]; omega)
  unfold charsetM
  rw [len_data] at hle ⊢
  generalize passP blankP t.data.toList (k + 1) = p1 at HP1 hle ⊢
  have HS := hide hs
  clear h cf
  by_cases ho : t.size ≤ p1
  · rw [if_pos ho]
    have hd : decide (t.size ≤ p1) = true := by simpa using ho
    clear hle
    go_enter Tryd.func33, Tryd.ntmps33
    go_wp2_with (first
      | (go_at_call 30; refine (unhide HP1).mono ?_; rintro e w1 ⟨rfl, hg⟩; have HO := hide (over_any hg.sc); rw [hd] at HO; have HG := hide hg; clear hg)
      | (go_at_call 20; refine (unhide HO).mono ?_; rintro e w2 ⟨rfl, n, rfl⟩))
    go_ret2
    exact ⟨rfl, (unhide HG).dn _⟩
  · rw [if_neg ho]
    have hd : decide (t.size ≤ p1) = false := by simpa using ho
    have hp1 : p1 < t.size := by omega
    have HQL : Hid ((⟨#[34, 39]⟩ : ByteArray).data.toList = quotesL) := hide rfl
    cases ha : amongM t.data.toList p1 quotesL with
    | true =>
      rw [if_pos rfl]
      have HH := hide (And.intro hp1 ha)
      clear hle ha hp1
      go_enter Tryd.func33, Tryd.ntmps33
      go_wp2_with (first
        | (go_at_call 30; refine (unhide HP1).mono ?_; rintro e w1 ⟨rfl, hg⟩; have HO := hide (over_any hg.sc); rw [hd] at HO; have HG := hide hg; clear hg)
        | (go_at_call 20; refine (unhide HO).mono ?_; rintro e w2 ⟨rfl, n, rfl⟩; have HA := hide (among0 ((unhide HG).dn n).sc ⟨#[34, 39]⟩ (unhide HS) (Nat.le_of_lt (unhide HH).1)); rw [unhide HQL, (unhide HH).2] at HA; have HQ := hide (quoted_any ((unhide HG).dn n).sc (unhide HH).1 (unhide HS)); unfold optV at HQ)
        | (go_at_call 40; refine (unhide HA).mono ?_; rintro e w3 ⟨rfl, rfl⟩)
        | (go_at_call 50; refine (unhide HQ).mono ?_; rintro e w3 ⟨rfl, hg3⟩; have HG3 := hide (((unhide HG).dn n).then hg3); clear hg3))
      go_ret2
      exact ⟨rfl, unhide HG3⟩
    | false =>
      rw [if_neg (by simp)]
      have hle2 := passP_le (p := charP) (l := t.data.toList) (k := p1) (by rw [len_data]; omega)
      rw [len_data] at hle2
      have HPC : Hid (∀ W, Sc W b t p1 → Calls Tryd.prog 30 #[.pointer (some ⟨b, 0, none⟩), .func (.func 51) #[.pointer (some ⟨b, 0, none⟩)] #[]] W fun e w'' => e = .returned (.tuple #[]) ∧ Sc w'' b t (passP charP t.data.toList p1) ∧ Mod (· = b) W w'') := hide (fun W hW => passChar hW hs (by omega))
      have HX := hide (extract_eq t p1 (passP charP t.data.toList p1))
      generalize passP charP t.data.toList p1 = p2 at HPC hle2 HX ⊢
      have HH := hide (And.intro hp1 ha)
      have hz1 : (p1 : Int) ≤ (p2 : Int) := by omega
      have hz2 : (p2 : Int) ≤ (t.size : Int) := by omega
      clear hle ha hp1
      go_enter Tryd.func33, Tryd.ntmps33
      go_wp2_with (first
        | (have _x := unhide HA; go_at_call 30; refine (unhide HPP).mono ?_; rintro e w1 ⟨rfl, h4, h5⟩; have HG4 : Hid (Gone w _ b t p2) := hide (((unhide HG).dn n).then ⟨h4, h5⟩); obtain ⟨e0, e1, _⟩ := h4.cells; clear h4 h5)
        | (go_at_call 30; refine (unhide HP1).mono ?_; rintro e w1 ⟨rfl, hg⟩; have HO := hide (over_any hg.sc); rw [hd] at HO; have HG := hide hg; clear hg)
        | (go_at_call 20; refine (unhide HO).mono ?_; rintro e w2 ⟨rfl, n, rfl⟩; have HA := hide (among0 ((unhide HG).dn n).sc ⟨#[34, 39]⟩ (unhide HS) (Nat.le_of_lt (unhide HH).1)); rw [unhide HQL, (unhide HH).2] at HA; have HPP := hide ((unhide HPC) _ ((unhide HG).dn n).sc); obtain ⟨d0, d1, _⟩ := ((unhide HG).dn n).sc.cells)
        | (go_at_call 40; refine (unhide HA).mono ?_; rintro e w3 ⟨rfl, rfl⟩))
      go_quiet (fail)
      go_wp2
      go_ret2
      have e1 : optV (some ((t.data.toList.take p2).drop p1)) = .tuple #[.string (t.extract p1 p2), .bool true] := by unfold optV; rw [unhide HX]; rfl
      rw [e1]
      exact ⟨rfl, (unhide HG4).dn _⟩
end
end Go.Proofs.YtmikcdmlhocgbaaDoor
