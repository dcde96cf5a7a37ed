/-
  Package sniff's scanner: name and value.
-/
import Derived.Test.YtmikcdmlhocgbaaDoorSf
import Derived.Deep.RegionWith
namespace Go.Proofs.YtmikcdmlhocgbaaDoor
open Go.RowKit Go.Lib

def nameS (l : List UInt8) (k : Nat) : Nat := if seesM l k [61] then k + 1 else k
def nameE (l : List UInt8) (k : Nat) : Nat := passP nameP l (nameS l k)
def nameM (l : List UInt8) (k : Nat) : List UInt8 := ((l.take (nameE l k)).drop k).map low
def valueV (l : List UInt8) (k : Nat) : List UInt8 := if amongM l k quotesL then ((quotedM l k).1.getD []).map low else ((l.take (passP wordP l k)).drop k).map low
def valueO (l : List UInt8) (k : Nat) : Bool := if amongM l k quotesL then (quotedM l k).1.isSome else decide (passP wordP l k < l.length)
def valueE (l : List UInt8) (k : Nat) : Nat := if amongM l k quotesL then (quotedM l k).2 else passP wordP l k

theorem nameS_le {l : List UInt8} {k : Nat} (hk : k ≤ l.length) : k ≤ nameS l k ∧ nameS l k ≤ l.length := by
  unfold nameS
  split
  · rename_i h
    have := sees_fits h (by decide)
    have h1 : ([61] : List UInt8).length = 1 := rfl
    omega
  · omega
theorem nameE_le {l : List UInt8} {k : Nat} (hk : k ≤ l.length) : k ≤ nameE l k ∧ nameE l k ≤ l.length := by
  have h1 := nameS_le hk
  have h2 := passP_le (p := nameP) h1.2
  unfold nameE
  omega
theorem extract_small (t : ByteArray) (hs : Small t) (a c : Nat) : ((t.extract a c).size : Int) < 281474976710656 := by
  unfold Small at hs
  rw [ByteArray.size_extract]
  omega

section
variable {w w' : World} {b : Nat} {t : ByteArray} {k : Nat}

theorem sees1 (h : Sc w b t k) (hk : k ≤ t.size) (hs : Small t) (c : UInt8) :
    Calls Tryd.prog 32 #[.pointer (some ⟨b, 0, none⟩), .string ⟨#[c]⟩] w fun e w' => e = .returned (.bool (seesM t.data.toList k [c])) ∧ ∃ n, w' = w.drewN n := sees_any h hk hs ⟨#[c]⟩ (Nat.zero_lt_one) (by show 1 ≤ 100; decide)

set_option maxHeartbeats 1000000 in
theorem name_any (h : Sc w b t k) (hk : k ≤ t.size) (hs : Small t) :
    Calls Tryd.prog 68 #[.pointer (some ⟨b, 0, none⟩)] w fun e w' => e = .returned (.string ⟨(nameM t.data.toList k).toArray⟩) ∧ Gone w w' b t (nameE t.data.toList k) := by
  obtain ⟨c0, c1, cf⟩ := h.cells
  have cf1 := cf 1
  have HSE := hide (sees1 h hk hs 61)
  have hnl := nameS_le (l := t.data.toList) (k := k) (by rw [len_data]; exact hk)
  have hel := nameE_le (l := t.data.toList) (k := k) (by rw [len_data]; exact hk)
  rw [len_data] at hnl hel
  have HPN : Hid (∀ W, Sc W b t (nameS t.data.toList k) → Calls Tryd.prog 30 #[.pointer (some ⟨b, 0, none⟩), .func (.func 79) #[.pointer (some ⟨b, 0, none⟩)] #[]] W fun e w'' => e = .returned (.tuple #[]) ∧ Sc w'' b t (nameE t.data.toList k) ∧ Mod (· = b) W w'') := hide (fun W hW => passName hW hs hnl.2)
  have HX := hide (show (⟨(nameM t.data.toList k).toArray⟩ : ByteArray) = ⟨((t.extract k (nameE t.data.toList k)).data.toList.map low).toArray⟩ by rw [extract_list]; rfl)
  have HST := hide (fun W => smallText_any (t.extract k (nameE t.data.toList k)) W (extract_small t hs _ _))
  generalize (⟨(nameM t.data.toList k).toArray⟩ : ByteArray) = nm at HX ⊢
  rw [← unhide HX] at HST
  clear HX
  generalize nameE t.data.toList k = p2 at HPN hel HST ⊢
  have hz1 : (k : Int) ≤ (p2 : Int) := by omega
  have hz2 : (p2 : Int) ≤ (t.size : Int) := by omega
  have hw : IntKind.i64.wrap ((k : Int) + 1) = (k : Int) + 1 := by unfold Small at hs; exact wrap_add k 1 (by omega) (by omega)
  have HH := hide h
  unfold nameS at HPN
  clear h cf hs hk hel hnl
  cases hr : seesM t.data.toList k [61] with
  | true =>
    rw [hr] at HSE
    rw [hr, if_pos rfl] at HPN
    clear hr
    go_enter Tryd.func68, Tryd.ntmps68
    go_wp2_with (first
      | (go_at_call 32; refine (unhide HSE).mono ?_; rintro e w1 ⟨rfl, n, rfl⟩; have HG1 := hide (((Gone.refl (unhide HH)).dn n).set (k + 1)); have HPP := hide ((unhide HPN) _ (unhide HG1).sc))
      | (go_at_call 30; refine (unhide HPP).mono ?_; rintro e w2 ⟨rfl, h4, h5⟩; have HG2 : Hid (Gone w w2 b t p2) := hide ((unhide HG1).then ⟨h4, h5⟩); obtain ⟨d0, d1, _⟩ := h4.cells; clear h4 h5))
    go_region_with (go_at_call 80; refine ((unhide HST) _).mono ?_; rintro e w3 ⟨rfl, h6⟩; have HB3 := hide h6; clear h6)
    all_goals go_wp2
    all_goals go_ret
    all_goals exact ⟨rfl, ((unhide HG2).dn 1).below (unhide HB3)⟩
  | false =>
    rw [hr] at HSE
    rw [hr, if_neg (by simp)] at HPN
    clear hr
    go_enter Tryd.func68, Tryd.ntmps68
    go_wp2_with (first
      | (go_at_call 32; refine (unhide HSE).mono ?_; rintro e w1 ⟨rfl, n, rfl⟩; have HG1 := hide ((Gone.refl (unhide HH)).dn n); have HPP := hide ((unhide HPN) _ (unhide HG1).sc))
      | (go_at_call 30; refine (unhide HPP).mono ?_; rintro e w2 ⟨rfl, h4, h5⟩; have HG2 : Hid (Gone w w2 b t p2) := hide ((unhide HG1).then ⟨h4, h5⟩); obtain ⟨d0, d1, _⟩ := h4.cells; clear h4 h5))
    go_region_with (go_at_call 80; refine ((unhide HST) _).mono ?_; rintro e w3 ⟨rfl, h6⟩; have HB3 := hide h6; clear h6)
    all_goals go_wp2
    all_goals go_ret
    all_goals exact ⟨rfl, ((unhide HG2).dn 1).below (unhide HB3)⟩
end
end Go.Proofs.YtmikcdmlhocgbaaDoor
