/-
  Package show's second writer of lines: it writes them behind one another into a strings.Builder. The two writers of lines, in one form: what each holds behind so many lines, and that a line is taken. The stable sort of shown attributes: the swap of two ranges.
-/
import Derived.Test.YtlbkoafeedlfaaaSBbg
import Derived.Deep.RegionHeld3
import Derived.Lib.SmallJoins
import Derived.Test.YtlbkoafeedlfaaaSBbc
import Derived.Deep.LoopGhost
namespace Go.Proofs.Ytlbkoafeedlfaaa
open Go.RowKit

def blank (m : Nat) : ByteArray := ⟨(List.replicate m 32).toArray⟩
theorem blank_list (m : Nat) : (blank m).data.toList = List.replicate m 32 := rfl
theorem blank_size (m : Nat) : (blank m).size = m := by show (List.replicate m (32 : UInt8)).toArray.size = m; simp
theorem list_inj {a b : ByteArray} (h : a.data.toList = b.data.toList) : a = b := by
  obtain ⟨⟨x⟩⟩ := a
  obtain ⟨⟨y⟩⟩ := b
  exact congrArg (fun l : List UInt8 => (⟨⟨l⟩⟩ : ByteArray)) h
theorem blank_twice (m : Nat) : blank m ++ blank m = blank (2 * m) := by
  apply list_inj
  rw [Joins.data_append, blank_list, blank_list, List.replicate_append_replicate, Nat.two_mul]
theorem blank_cut (m n : Nat) (h : n ≤ m) : (blank m).extract 0 n = blank n := by
  apply list_inj
  rw [Lib.extract_data, blank_list, blank_list]
  simp [Nat.min_eq_left h]

/-- The text so far, and the blanks that are kept. -/
structure TextAt (bb kb tb B : Nat) (l : List UInt8) (m : Nat) (w : World) : Prop where
  text : Lib.BuilderAtF 117 5 B bb (.pointer (some ⟨bb, 0, none⟩)) (Lib.byteCells l) w
  blanks : w.heap[kb]? = some (.cells #[.string (blank m)] 9 (0, 0))
  ptr : w.heap[tb]? = some (.cells #[.pointer (some ⟨bb, 0, none⟩)] 115 (0, 0))
  low : 2 ≤ m
  high : m ≤ 8192
  nk : kb ≠ bb
  nt : tb ≠ bb
  nkt : kb ≠ tb
  lk : B ≤ kb
  base : B ≤ w.heap.size

def own3 (bb kb : Nat) : Nat → Prop := fun k => k = bb ∨ k = kb

theorem Kept.others {bb kb B : Nat} {w w' : World} (h : Lib.OthersKept 5 (some bb) w w') (hb : Below B w w') (hs : w.heap.size ≤ w'.heap.size) : Kept (own3 bb kb) B w w' :=
  ⟨hb, hs, fun k o hk hne ho => h k o hk (fun e => hne (.inl (by injection e))) ho⟩

theorem Kept.drewn {S : Nat → Prop} {B : Nat} {w w' : World} (h : Kept S B w.drew w') : Kept S B w w' :=
  ⟨⟨h.below.os, h.below.tape, h.below.output, h.below.size, h.below.block⟩, h.size, h.block⟩

theorem write_t {bb kb tb B m : Nat} {l : List UInt8} {w : World} (h : TextAt bb kb tb B l m w) (s : ByteArray) (hl : l.length + s.size ≤ 140000000000000) :
    Calls Try.prog 120 #[.pointer (some ⟨bb, 0, none⟩), .string s] w fun e w' => (∃ r, e = .returned r) ∧ TextAt bb kb tb B (l ++ s.data.toList) m w' ∧ Kept (own3 bb kb) B w w' := by
  refine (write_k B bb (Lib.byteCells l) s w h.text (by rw [show (Lib.byteCells l).length = l.length by simp [Lib.byteCells]]; omega) h.base).mono ?_
  rintro e w' ⟨rfl, hb, hbel, hk, hsz⟩
  have hk9 : w'.heap[kb]? = some (.cells #[.string (blank m)] 9 (0, 0)) := hk kb _ h.blanks (fun e => h.nk (by injection e)) (fun c fz e => by injection e with _ e2; cases e2)
  have hkt : w'.heap[tb]? = some (.cells #[.pointer (some ⟨bb, 0, none⟩)] 115 (0, 0)) := hk tb _ h.ptr (fun e => h.nt (by injection e)) (fun c fz e => by injection e with _ e2; cases e2)
  refine ⟨⟨_, rfl⟩, ⟨?_, hk9, hkt, h.low, h.high, h.nk, h.nt, h.nkt, h.lk, Nat.le_trans h.base hsz⟩, Kept.others hk hbel hsz⟩
  have : Lib.byteCells (l ++ s.data.toList) = Lib.byteCells l ++ Lib.strCells s := by simp [Lib.byteCells, Lib.strCells]
  rw [this]
  exact hb

/-- A builder is as it was where its block and the rows of bytes are. -/
theorem builder_keep {T : TypeId} {B b : Nat} {p : Value} {bs : List Value} {w w' : World} (h : Lib.BuilderAtF T 5 B b p bs w) (hb : w'.heap[b]? = w.heap[b]?) (h5 : ∀ (k : Nat) (c : Array Value) (fz : Nat × Nat), w.heap[k]? = some (Obj.cells c 5 fz) → w'.heap[k]? = some (Obj.cells c 5 fz)) : Lib.BuilderAtF T 5 B b p bs w' := by
  obtain ⟨hB, v, hv, hown, hne⟩ := h
  refine ⟨hB, v, by rw [hb]; exact hv, ⟨hown.1, ?_⟩, hne⟩
  rcases hown.2 with hn | ⟨g, cap, cur, fz, hvv, hbb, hgg, rest⟩
  · exact .inl hn
  · exact .inr ⟨g, cap, cur, fz, hvv, hbb, h5 g cur fz hgg, rest⟩
theorem TextAt.keep {bb kb tb B m : Nat} {l : List UInt8} {w w' : World} (h : TextAt bb kb tb B l m w) (h1 : w'.heap[bb]? = w.heap[bb]?) (h2 : w'.heap[kb]? = w.heap[kb]?) (h3 : w'.heap[tb]? = w.heap[tb]?) (h5 : ∀ (k : Nat) (c : Array Value) (fz : Nat × Nat), w.heap[k]? = some (Obj.cells c 5 fz) → w'.heap[k]? = some (Obj.cells c 5 fz)) (hs : w.heap.size ≤ w'.heap.size) : TextAt bb kb tb B l m w' :=
  ⟨builder_keep h.text h1 h5, by rw [h2]; exact h.blanks, by rw [h3]; exact h.ptr, h.low, h.high, h.nk, h.nt, h.nkt, h.lk, Nat.le_trans h.base hs⟩
theorem TextAt.double {bb kb tb B m : Nat} {l : List UInt8} {w : World} (h : TextAt bb kb tb B l m w) (hm : 2 * m ≤ 8192) :
    TextAt bb kb tb B l (2 * m) (w.setCell ⟨kb, 0, none⟩ (.string (blank m ++ blank m))) ∧ Kept (own3 bb kb) B w (w.setCell ⟨kb, 0, none⟩ (.string (blank m ++ blank m))) := by
  have hh : ∀ k, k ≠ kb → (w.setCell ⟨kb, 0, none⟩ (.string (blank m ++ blank m))).heap[k]? = w.heap[k]? := fun k hk => Below.heap_setCell _ _ _ _ hk
  have hk : (w.setCell ⟨kb, 0, none⟩ (.string (blank m ++ blank m))).heap[kb]? = some (.cells #[.string (blank (2 * m))] 9 (0, 0)) := by
    have := heap_setCell_same w kb 0 #[.string (blank m)] 9 (.string (blank m ++ blank m)) h.blanks
    rw [this, blank_twice]
    rfl
  refine ⟨⟨builder_keep h.text (hh bb (fun e => h.nk e.symm)) (fun k c fz hc => ?_), hk, by rw [hh tb (fun e => h.nkt e.symm)]; exact h.ptr, by have := h.low; omega, hm, h.nk, h.nt, h.nkt, h.lk, by simpa using h.base⟩, ?_⟩
  · rw [hh k (fun e => by subst e; rw [h.blanks] at hc; injection hc with hc; injection hc with _ e2; cases e2)]
    exact hc
  · exact ⟨(Below.refl B w).setCell (p := ⟨kb, 0, none⟩) h.lk _, by simp, fun k o ho hne _ => by rw [hh k (fun e => hne (.inr e))]; exact ho⟩

def catP (ps : List ByteArray) : List UInt8 := ps.flatMap fun p => p.data.toList
theorem catP_take (ps : List ByteArray) {i : Nat} {p : ByteArray} (h : ps[i]? = some p) : catP (ps.take (i + 1)) = catP (ps.take i) ++ p.data.toList := by
  unfold catP
  rw [List.take_add_one, h]
  simp
theorem catP_len (ps : List ByteArray) : (catP ps).length = sizesP ps := by
  unfold catP sizesP
  induction ps with
  | nil => rfl
  | cons p ps ih => rw [List.flatMap_cons, List.length_append, ih, List.map_cons, List.sum_cons]; rfl
/-- The bytes of a line. -/
def lineB (d : Nat) (ps : List ByteArray) : List UInt8 := [124, 32] ++ List.replicate (2 * d) 32 ++ catP ps ++ [10]
theorem lineB_len (d : Nat) (ps : List ByteArray) : (lineB d ps).length = lineZ d ps := by
  unfold lineB lineZ
  simp [catP_len]
  omega

theorem PartsAt.kept {pb bb kb B : Nat} {ps : List ByteArray} {w w' : World} (h : PartsAt w pb ps) (hk : Kept (own3 bb kb) B w w') (h1 : pb ≠ bb) (h2 : pb ≠ kb) : PartsAt w' pb ps :=
  hk.cell h (fun e => by rcases e with e | e <;> contradiction) (by decide)

set_option maxHeartbeats 2000000 in
theorem write_line {bb kb tb B m pb : Nat} {l : List UInt8} {ps : List ByteArray} {w : World} (h : TextAt bb kb tb B l m w) (hp : PartsAt w pb ps) (h1 : pb ≠ bb) (h2 : pb ≠ kb) (c d : Nat) (hd : d ≤ 2000) (hn : ps.length ≤ 10) (hz : sizesP ps ≤ 100000000) (hl : l.length ≤ 100000000000000) :
    Calls Try.prog 119 #[.int .i64 d, .slice (some ⟨pb, 0, none⟩) ps.length c, .pointer (some ⟨kb, 0, none⟩), .pointer (some ⟨tb, 0, none⟩)] w fun e w' => e = .returned (.tuple #[]) ∧ (∃ m', TextAt bb kb tb B (l ++ lineB d ps) m' w') ∧ Kept (own3 bb kb) B w w' := by
  have hdz : (d : Int) ≤ 2000 := by omega
  obtain ⟨n2, hn2, hn2'⟩ : ∃ n2 : Nat, (d : Int) * 2 = (n2 : Int) ∧ n2 = 2 * d := ⟨2 * d, by omega, rfl⟩
  have HN2 := hide hn2'
  have hn2z : (n2 : Int) ≤ 4000 := by omega
  clear hn2'
  obtain ⟨pn, hpn⟩ : ∃ pn, ps.length = pn := ⟨_, rfl⟩
  have HPN := hide hpn
  have hpz : (pn : Int) ≤ 10 := by omega
  rw [hpn]
  have HLEN := hide hl
  have HZZ := hide hz
  have HD := hide hd
  have HP := hide hp
  have HN := hide (And.intro h1 h2)
  have HT := hide h
  clear h hp hl hd h1 h2 hz hn hpn
  go_enter Try.func119, Try.ntmps119
  go_wp2
  have hhigh := (unhide HT).high
  go_loopg [] (8192 - m) (fun k wx => ∃ m, m + k = 8192 ∧ Hid (TextAt bb kb tb B l m wx ∧ Kept (own3 bb kb) B w wx))
  case atStart => exact ⟨m, by omega, hide ⟨unhide HT, Kept.refl _ _ _⟩⟩
  case round =>
    clear HT hhigh
    obtain ⟨m, hmk, HX⟩ := hrel
    have ck : wr.cell? ⟨kb, 0, none⟩ = some (.string (blank m)) := by have := (unhide HX).1.blanks; simp [World.cell?, this]
    have fk : wr.frozen? ⟨kb, 0, none⟩ = false := by have := (unhide HX).1.blanks; simp [World.frozen?, this]
    have ct : wr.cell? ⟨tb, 0, none⟩ = some (.pointer (some ⟨bb, 0, none⟩)) := by have := (unhide HX).1.ptr; simp [World.cell?, this]
    have hbs := blank_size m
    have hm4 : (m : Int) ≤ 8192 := by omega
    by_cases hc : m < n2
    · have hcz : (m : Int) < (n2 : Int) := by omega
      have HDB := hide ((unhide HX).1.double (by omega))
      go_wp2
      go_roundg (gk - m)
      case measure => have := (unhide HX).1.low; omega
      case rel => exact ⟨2 * m, by omega, hide ⟨(unhide HDB).1, (unhide HX).2.trans (unhide HDB).2⟩⟩
    · have hcz : ¬ (m : Int) < (n2 : Int) := by omega
      have hd2 : (n2 : Int) ≤ (m : Int) := by omega
      have HCUT := hide (blank_cut m n2 (by omega))
      have hd3 : (n2 : Int) ≤ ((blank m).size : Int) := by rw [blank_size]; omega
      have hd4 : n2 ≤ m := by omega
      have hd5 : n2 ≤ (blank m).size := by rw [blank_size]; omega
      have hd6 : (0 : Int) ≤ (n2 : Int) := by omega
      have hw1 : IntKind.i64.wrap ((d : Int) * 2) = (n2 : Int) := by rw [IntKind.wrap_i64]; omega
      have hw2 : IntKind.i64.wrap (n2 : Int) = (n2 : Int) := by rw [IntKind.wrap_i64]; omega
      go_wp2_with (go_at_call 120; refine (write_t (unhide HX).1 ⟨#[124, 32]⟩ (by have := unhide HLEN; show _ + 2 ≤ _; omega)).mono ?_; rintro e w1 ⟨⟨r1, rfl⟩, ht1, hk1⟩; have HX1 : Hid (TextAt bb kb tb B (l ++ [124, 32]) m w1 ∧ Kept (own3 bb kb) B w w1) := hide ⟨ht1, (unhide HX).2.trans hk1⟩; have ck1 : Hid (w1.cell? ⟨kb, 0, none⟩ = some (.string (blank m))) := hide (by have := ht1.blanks; simp [World.cell?, this]); have ct1 : Hid (w1.cell? ⟨tb, 0, none⟩ = some (.pointer (some ⟨bb, 0, none⟩))) := hide (by have := ht1.ptr; simp [World.cell?, this]); clear ht1 hk1)
      go_region_held3 (fun w' => w'.cell? ⟨kb, 0, none⟩ = some (.string (blank m)) ∧ w'.cell? ⟨tb, 0, none⟩ = some (.pointer (some ⟨bb, 0, none⟩))) (first | exact ⟨unhide ck1, unhide ct1⟩ | exact ⟨unhide ck2, unhide ct2⟩) (first | (go_at_call 120; rw [unhide HCUT]; refine (write_t (w := w1.drew) (l := l ++ [124, 32]) (m := m) (by exact (unhide HX1).1.keep rfl rfl rfl (fun _ _ _ h => h) (Nat.le_refl _)) (blank n2) (by have := unhide HLEN; rw [blank_size]; simp; omega)).mono ?_; rintro e w2 ⟨⟨r2, rfl⟩, ht2, hk2⟩; have HX2 : Hid (TextAt bb kb tb B (l ++ [124, 32] ++ List.replicate n2 32) m w2 ∧ Kept (own3 bb kb) B w w2) := hide ⟨ht2, (unhide HX1).2.trans (Kept.drewn hk2)⟩; have ck2 : Hid (w2.cell? ⟨kb, 0, none⟩ = some (.string (blank m))) := hide (by have := ht2.blanks; simp [World.cell?, this]); have ct2 : Hid (w2.cell? ⟨tb, 0, none⟩ = some (.pointer (some ⟨bb, 0, none⟩))) := hide (by have := ht2.ptr; simp [World.cell?, this]); clear ht2 hk2))
      go_wp2
      have HLEN2 : Hid ((l ++ [124, 32] ++ List.replicate n2 32).length ≤ 100000000100000) := hide (by have := unhide HLEN; simp; omega)
      obtain ⟨l2, hl2⟩ : ∃ l2, l ++ [124, 32] ++ List.replicate n2 32 = l2 := ⟨_, rfl⟩
      rw [hl2] at HX2 HLEN2
      have HL2 := hide hl2
      clear hl2
      go_loopg [26] pn (fun k s26 wx => ∃ i : Nat, i + k = pn ∧ s26 = .int .i64 i ∧ Hid (TextAt bb kb tb B (l2 ++ catP (ps.take i)) m wx ∧ Kept (own3 bb kb) B w wx))
      case atStart => exact ⟨0, by omega, rfl, hide (by simpa [catP] using unhide HX2)⟩
      case round =>
        clear HX2 HX1 HX ck ct fk ck1 ct1 ck2 ct2
        obtain ⟨i, hik, rfl, HY⟩ := hrel
        have HPW := hide ((unhide HP).kept (unhide HY).2 (unhide HN).1 (unhide HN).2)
        have ct : wr.cell? ⟨tb, 0, none⟩ = some (.pointer (some ⟨bb, 0, none⟩)) := by have := (unhide HY).1.ptr; simp [World.cell?, this]
        have hcl : (catP (ps.take i)).length ≤ 100000000 := by rw [catP_len]; have := sizesP_le ps i; have := unhide HZZ; omega
        have HCL := hide hcl
        clear hcl
        by_cases hi : i < pn
        · have hiz : (i : Int) < (pn : Int) := by omega
          obtain ⟨p, hp⟩ : ∃ p, ps[i]? = some p := ⟨_, List.getElem?_eq_getElem (by have := unhide HPN; omega)⟩
          have cp := (unhide HPW).cell hp
          have HTK := hide (catP_take ps hp)
          have HPS : Hid (p.size ≤ 100000000) := hide (by have := sizesP_take ps hp; have := sizesP_le ps (i + 1); have := unhide HZZ; omega)
          clear hp
          go_wp2_with (go_at_call 120; refine (write_t (unhide HY).1 p (by have := unhide HLEN2; have := unhide HCL; have := unhide HPS; rw [List.length_append]; omega)).mono ?_; rintro e w1 ⟨⟨r1, rfl⟩, ht1, hk1⟩; have HX1 := hide (And.intro ht1 ((unhide HY).2.trans hk1)); clear ht1 hk1)
          go_roundg (gk - 1)
          case measure => omega
          case rel => exact ⟨i + 1, by omega, by go_num, hide (by rw [unhide HTK, ← List.append_assoc]; exact unhide HX1)⟩
        · have hiz : ¬ (i : Int) < (pn : Int) := by omega
          have HTE : Hid (catP (ps.take i) = catP ps) := hide (by rw [List.take_of_length_le (by have := unhide HPN; omega)])
          go_wp2_with (go_at_call 120; refine (write_t (unhide HY).1 ⟨#[10]⟩ (by have := unhide HLEN2; have := unhide HCL; rw [List.length_append]; show _ + 1 ≤ _; omega)).mono ?_; rintro e w1 ⟨⟨r1, rfl⟩, ht1, hk1⟩; have HX1 := hide (And.intro ht1 ((unhide HY).2.trans hk1)); clear ht1 hk1)
          go_end0
          refine ⟨rfl, ⟨m, ?_⟩, (unhide HX1).2⟩
          have e : l ++ lineB d ps = l2 ++ catP (ps.take i) ++ [10] := by
            rw [← unhide HL2, unhide HN2, unhide HTE]
            simp [lineB]
          rw [e]
          exact (unhide HX1).1
end Go.Proofs.Ytlbkoafeedlfaaa

namespace Go.Proofs.Ytlbkoafeedlfaaa
open Go.RowKit

def evZ (E : List (Nat × List ByteArray)) : Nat := (E.map fun e => lineZ e.1 e.2).sum
def evB (E : List (Nat × List ByteArray)) : List UInt8 := E.flatMap fun e => lineB e.1 e.2
theorem evZ_append (E F : List (Nat × List ByteArray)) : evZ (E ++ F) = evZ E + evZ F := by unfold evZ; rw [List.map_append, List.sum_append_nat]
theorem evB_append (E F : List (Nat × List ByteArray)) : evB (E ++ F) = evB E ++ evB F := by unfold evB; rw [List.flatMap_append]
theorem evZ_one (d : Nat) (ps : List ByteArray) : evZ [(d, ps)] = lineZ d ps := by simp [evZ]
theorem evB_one (d : Nat) (ps : List ByteArray) : evB [(d, ps)] = lineB d ps := by simp [evB]
theorem evB_len : ∀ (E : List (Nat × List ByteArray)), (evB E).length = evZ E
  | [] => rfl
  | e :: E => by
    have h1 := evB_len E
    unfold evB evZ at *
    rw [List.flatMap_cons, List.length_append, h1, lineB_len, List.map_cons, List.sum_cons]
/-- A line that can be written. -/
structure EvOk (e : Nat × List ByteArray) : Prop where
  deep : e.1 ≤ 2000
  few : e.2.length ≤ 10
  small : sizesP e.2 ≤ 100000000

def own1 (sb : Nat) : Nat → Prop := fun k => k = sb
def own2 (bb kb tb : Nat) : Nat → Prop := fun k => own3 bb kb k ∨ k = tb
def X1 (sb B : Nat) (E : List (Nat × List ByteArray)) (w : World) : Prop := SizeAt sb (evZ E) w ∧ B ≤ sb
def X2 (bb kb tb B : Nat) (E : List (Nat × List ByteArray)) (w : World) : Prop := ∃ m, TextAt bb kb tb B (evB E) m w

section
variable {sb B bb kb tb : Nat} {E : List (Nat × List ByteArray)} {w w' W : World}
theorem X1.below (h : X1 sb B E w) (hb : Below w.heap.size w W) : X1 sb B E W :=
  ⟨by have := h.1; unfold SizeAt at this ⊢; rw [hb.block sb (lt_of_block this)]; exact this, h.2⟩
theorem X2.below (h : X2 bb kb tb B E w) (hb : Below w.heap.size w W) : X2 bb kb tb B E W := by
  obtain ⟨m, h⟩ := h
  obtain ⟨_, v, hv, _⟩ := h.text
  exact ⟨m, h.keep (hb.block bb (lt_of_block hv)) (hb.block kb (lt_of_block h.blanks)) (hb.block tb (lt_of_block h.ptr)) (fun k c fz hc => (hb.block k (lt_of_block hc)).trans hc) hb.size⟩
theorem X1.lt (h : X1 sb B E w) : ∀ k, own1 sb k → k < w.heap.size := by
  rintro k rfl; exact lt_of_block h.1
theorem X2.lt (h : X2 bb kb tb B E w) : ∀ k, own2 bb kb tb k → k < w.heap.size := by
  obtain ⟨m, h⟩ := h
  obtain ⟨_, v, hv, _⟩ := h.text
  rintro k ((rfl | rfl) | rfl)
  · exact lt_of_block hv
  · exact lt_of_block h.blanks
  · exact lt_of_block h.ptr
theorem X1.size (h : X1 sb B E w) : B ≤ w.heap.size := Nat.le_of_lt (Nat.lt_of_le_of_lt h.2 (lt_of_block h.1))
theorem X2.size (h : X2 bb kb tb B E w) : B ≤ w.heap.size := by obtain ⟨m, h⟩ := h; exact h.base
theorem X1.mod {F : Nat → Prop} (h : X1 sb B E w) (hm : Mod F w w') (hF : ∀ k, F k → ¬ own1 sb k) (_h5 : ∀ k, F k → ∀ c fz, w.heap[k]? ≠ some (.cells c 5 fz)) : X1 sb B E w' :=
  ⟨by have := h.1; unfold SizeAt at this ⊢; rw [hm.block sb (lt_of_block this) (fun e => hF sb e rfl)]; exact this, h.2⟩
theorem X2.mod {F : Nat → Prop} (h : X2 bb kb tb B E w) (hm : Mod F w w') (hF : ∀ k, F k → ¬ own2 bb kb tb k) (h5 : ∀ k, F k → ∀ c fz, w.heap[k]? ≠ some (.cells c 5 fz)) : X2 bb kb tb B E w' := by
  obtain ⟨m, h⟩ := h
  obtain ⟨_, v, hv, _⟩ := h.text
  exact ⟨m, h.keep (hm.block bb (lt_of_block hv) (fun e => hF bb e (.inl (.inl rfl)))) (hm.block kb (lt_of_block h.blanks) (fun e => hF kb e (.inl (.inr rfl)))) (hm.block tb (lt_of_block h.ptr) (fun e => hF tb e (.inr rfl)))
    (fun k c fz hc => (hm.block k (lt_of_block hc) (fun e => h5 k e c fz hc)).trans hc) hm.size⟩
theorem Kept.mod {S : Nat → Prop} {F : Nat → Prop} {wr w1 : World} (h : Kept S B w wr) (hm : Mod F wr w1) (hF : ∀ k, F k → w.heap.size ≤ k) (hB : B ≤ w.heap.size) : Kept S B w w1 := by
  refine ⟨h.below.trans ⟨hm.os, hm.tape, hm.output, hm.size, fun k hk => hm.block k (Nat.lt_of_lt_of_le hk (Nat.le_trans hB h.size)) (fun e => by have := hF k e; omega)⟩, Nat.le_trans h.size hm.size, fun k o hk hs ho => ?_⟩
  have h1 := h.block k o hk hs ho
  rw [hm.block k (lt_of_block h1) (fun e => by have := hF k e; have := lt_of_block hk; omega)]
  exact h1
end

theorem line1 {sb B pb : Nat} {E : List (Nat × List ByteArray)} {w : World} (h : X1 sb B E w) (ps : List ByteArray) (n c : Nat) (hn : ps.length = n) (hp : PartsAt w pb ps) (_hne : ¬ own1 sb pb) (d : Nat) (dz : Int) (hdz : dz = (d : Int)) (hok : EvOk (d, ps)) (hb : evZ E ≤ 100000000000000) :
    Calls Try.prog 74 #[.int .i64 dz, .slice (some ⟨pb, 0, none⟩) n c, .pointer (some ⟨sb, 0, none⟩)] w fun e w' => e = .returned (.tuple #[]) ∧ X1 sb B (E ++ [(d, ps)]) w' ∧ Kept (own1 sb) B w w' := by
  subst hdz hn
  exact (count_line h.1 hp c d (by have := hok.deep; simp at this; omega) hok.few hok.small hb h.2).mono fun _ _ ⟨h1, h2, h3⟩ => ⟨h1, ⟨by rw [evZ_append, evZ_one]; exact h2, h.2⟩, h3⟩
theorem line2 {bb kb tb B pb : Nat} {E : List (Nat × List ByteArray)} {w : World} (h : X2 bb kb tb B E w) (ps : List ByteArray) (n c : Nat) (hn : ps.length = n) (hp : PartsAt w pb ps) (hne : ¬ own2 bb kb tb pb) (d : Nat) (dz : Int) (hdz : dz = (d : Int)) (hok : EvOk (d, ps)) (hb : evZ E ≤ 100000000000000) :
    Calls Try.prog 119 #[.int .i64 dz, .slice (some ⟨pb, 0, none⟩) n c, .pointer (some ⟨kb, 0, none⟩), .pointer (some ⟨tb, 0, none⟩)] w fun e w' => e = .returned (.tuple #[]) ∧ X2 bb kb tb B (E ++ [(d, ps)]) w' ∧ Kept (own2 bb kb tb) B w w' := by
  subst hdz hn
  obtain ⟨m, h⟩ := h
  refine (write_line h hp (fun e => hne (.inl (.inl e))) (fun e => hne (.inl (.inr e))) c d hok.deep hok.few hok.small (by rw [evB_len]; exact hb)).mono fun _ _ ⟨h1, h2, h3⟩ => ⟨h1, ?_, ⟨h3.below, h3.size, fun k o hk hs ho => h3.block k o hk (fun e => hs (.inl e)) ho⟩⟩
  obtain ⟨m', h2⟩ := h2
  exact ⟨m', by rw [evB_append, evB_one]; exact h2⟩
end Go.Proofs.Ytlbkoafeedlfaaa

namespace Go.Proofs.Ytlbkoafeedlfaaa
open Go.RowKit

structure ShA where
  name : ByteArray
  val : ByteArray
def ShA.cells (x : ShA) : List Value := [.string x.name, .string x.val]
def shRow (l : List ShA) : List Value := l.flatMap ShA.cells
theorem sh_len (x : ShA) : x.cells.length = 2 := rfl

def swp (xs : List ShA) (i j : Nat) : List ShA := match xs[i]?, xs[j]? with
  | some x, some y => (xs.set i y).set j x
  | _, _ => xs
theorem swp_len (xs : List ShA) (i j : Nat) : (swp xs i j).length = xs.length := by unfold swp; split <;> simp
def swr (xs : List ShA) (a b : Nat) : Nat → List ShA
  | 0 => xs
  | n + 1 => swp (swr xs a b n) (a + n) (b + n)
theorem swr_len (xs : List ShA) (a b n : Nat) : (swr xs a b n).length = xs.length := by induction n with | zero => rfl | succ n ih => rw [swr, swp_len, ih]

/-- A row of shown attributes of one's own. -/
def ShAt (w : World) (base g cap : Nat) (xs : List ShA) : Prop := w.ownsRow base 173 2 (.slice (some ⟨g, 0, none⟩) xs.length cap) xs.length (shRow xs)

theorem ShAt.two {w : World} {base g cap : Nat} {xs : List ShA} (h : ShAt w base g cap xs) {i : Nat} {x : ShA} (hi : xs[i]? = some x) :
    w.cell? ⟨g, i * 2, none⟩ = some (.string x.name) ∧ w.cell? ⟨g, i * 2 + 1, none⟩ = some (.string x.val) := by
  have hlt : i < xs.length := (List.getElem?_eq_some_iff.1 hi).1
  have hc : ∀ j, j < 2 → w.cell? ⟨g, i * 2 + j, none⟩ = x.cells[j]? := fun j hj => by
    rw [World.ownsRow.cellAt h (i * 2 + j) (by omega), shRow, flat_get ShA.cells 2 sh_len xs i j hj, hi]; rfl
  exact ⟨hc 0 (by omega), hc 1 (by omega)⟩
theorem ShAt.frozen {w : World} {base g cap : Nat} {xs : List ShA} (h : ShAt w base g cap xs) (j : Nat) : w.frozen? ⟨g, j, none⟩ = false := World.ownsRow.frozenAt h j

/-- One element stored, in two cells. -/
theorem ShAt.put {w : World} {base g cap : Nat} {xs : List ShA} (h : ShAt w base g cap xs) {i : Nat} (hi : i < xs.length) (y : ShA) :
    ShAt ((w.setCell ⟨g, i * 2, none⟩ (.string y.name)).setCell ⟨g, i * 2 + 1, none⟩ (.string y.val)) base g cap (xs.set i y) := by
  obtain ⟨x, hx⟩ : ∃ x, xs[i]? = some x := ⟨_, List.getElem?_eq_getElem hi⟩
  have h1 := (World.ownsRow.stored h (i * 2) (.string y.name)).1
  rw [shRow, show i * 2 = i * 2 + 0 from rfl, flat_set ShA.cells 2 sh_len xs i 0 (by omega) x ⟨y.name, x.val⟩ (.string y.name) hx rfl] at h1
  have hx2 : (xs.set i ⟨y.name, x.val⟩)[i]? = some ⟨y.name, x.val⟩ := List.getElem?_set_self hi
  have h2 := (h1.stored (i * 2 + 1) (.string y.val)).1
  rw [flat_set ShA.cells 2 sh_len _ i 1 (by omega) ⟨y.name, x.val⟩ y (.string y.val) hx2 rfl, List.set_set] at h2
  unfold ShAt
  rw [List.length_set]
  exact h2

theorem put2_mod (w : World) (g a b : Nat) (u v : Value) : Mod (fun k => k = g) w ((w.setCell ⟨g, a, none⟩ u).setCell ⟨g, b, none⟩ v) :=
  (Mod.setCell (F := fun k => k = g) w ⟨g, a, none⟩ u rfl).trans (Mod.setCell (F := fun k => k = g) _ ⟨g, b, none⟩ v rfl)

theorem ShAt.swap {w : World} {base g cap : Nat} {xs : List ShA} (h : ShAt w base g cap xs) {i j : Nat} {x y : ShA} (hi : xs[i]? = some x) (hj : xs[j]? = some y) :
    ShAt ((((w.setCell ⟨g, i * 2, none⟩ (.string y.name)).setCell ⟨g, i * 2 + 1, none⟩ (.string y.val)).setCell ⟨g, j * 2, none⟩ (.string x.name)).setCell ⟨g, j * 2 + 1, none⟩ (.string x.val)) base g cap (swp xs i j) ∧
      Mod (fun k => k = g) w ((((w.setCell ⟨g, i * 2, none⟩ (.string y.name)).setCell ⟨g, i * 2 + 1, none⟩ (.string y.val)).setCell ⟨g, j * 2, none⟩ (.string x.name)).setCell ⟨g, j * 2 + 1, none⟩ (.string x.val)) := by
  have h1 := h.put (List.getElem?_eq_some_iff.1 hi).1 y
  have h2 := h1.put (i := j) (by rw [List.length_set]; exact (List.getElem?_eq_some_iff.1 hj).1) x
  refine ⟨?_, (put2_mod _ _ _ _ _ _).trans (put2_mod _ _ _ _ _ _)⟩
  unfold swp
  rw [hi, hj]
  exact h2

theorem Mod.drewR {F : Nat → Prop} {w w' : World} (h : Mod F w w') : Mod F w w'.drew := ⟨h.os, h.tape, h.output, h.size, h.block⟩

set_option maxRecDepth 100000 in
set_option maxHeartbeats 2000000 in
theorem swapRange_any {w : World} {base g cap : Nat} {xs : List ShA} (h : ShAt w base g cap xs) (a b n : Nat) (c : Value) (hab : a ≠ b) (ha : a + n ≤ xs.length) (hb : b + n ≤ xs.length) (hl : xs.length ≤ 1024) :
    Calls Try.prog 168 #[.slice (some ⟨g, 0, none⟩) xs.length cap, .int .i64 a, .int .i64 b, .int .i64 n, c] w fun e w' => e = .returned (.tuple #[]) ∧ ShAt w' base g cap (swr xs a b n) ∧ Mod (fun k => k = g) w w' := by
  have HS := hide h
  clear h
  go_enter Try.func168, Try.ntmps168
  go_wp2_with fail
  go_loopg [10] n (fun k s wx => ∃ j : Nat, s = .int .i64 j ∧ j + k = n ∧ ShAt wx base g cap (swr xs a b j) ∧ Mod (fun k => k = g) w wx)
  case atStart => exact ⟨0, rfl, by omega, unhide HS, Mod.refl _ _⟩
  case round =>
    obtain ⟨j, rfl, hjk, hS, hM⟩ := hrel
    by_cases hj : j < n
    · have hjz : (j : Int) < (n : Int) := by omega
      have hlen := swr_len xs a b j
      obtain ⟨x, hx⟩ : ∃ x, (swr xs a b j)[a + j]? = some x := ⟨_, List.getElem?_eq_getElem (by omega)⟩
      obtain ⟨y, hy⟩ : ∃ y, (swr xs a b j)[b + j]? = some y := ⟨_, List.getElem?_eq_getElem (by omega)⟩
      obtain ⟨x0, x1⟩ := hS.two hx
      obtain ⟨y0, y1⟩ := hS.two hy
      have fz := hS.frozen
      have HW := hide (hS.swap hx hy)
      have HM := hide hM
      have hja : a + j < xs.length := by omega
      have hjb : b + j < xs.length := by omega
      have hea : ((a : Int) + (j : Int)).toNat = a + j := by omega
      have heb : ((b : Int) + (j : Int)).toNat = b + j := by omega
      clear hS hM hx hy hlen
      have h1 : ¬ (a + j = b + j) := by omega
      have h2 : ¬ (b + j = a + j) := by omega
      have h3 : ¬ ((a + j) * 2 = (b + j) * 2) := by omega
      have h4 : ¬ ((b + j) * 2 = (a + j) * 2) := by omega
      go_wp2_with fail
      go_big_region
      go_wp2
      go_roundg (gk - 1)
      case measure => omega
      case rel => exact ⟨j + 1, by go_num, by omega, (unhide HW).1, (unhide HM).trans (Mod.drewR (unhide HW).2)⟩
    · have hjz : ¬ (j : Int) < (n : Int) := by omega
      obtain rfl : j = n := by omega
      have HW := hide hS
      have HM := hide hM
      clear hS hM
      go_wp2_with fail
      go_end0
      exact ⟨rfl, unhide HW, unhide HM⟩
end Go.Proofs.Ytlbkoafeedlfaaa
