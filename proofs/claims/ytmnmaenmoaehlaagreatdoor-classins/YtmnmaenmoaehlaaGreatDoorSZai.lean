/-
  strings.Builder at any place of a block: WriteString, String; what stands for a code point; how many bytes it has. The program's Escape: the text that is escaped behind a text.
-/
import Derived.Test.YtmnmaenmoaehlaaGreatDoorSZah
import Derived.Lib.UnsafeStr
import Derived.Lib.Builder
import Derived.Lib.FrozenHead
import Derived.Laws.Externs
import Derived.Shelf.RegionOpenPlain
namespace Go.Proofs.YtmnmaenmoaehlaaGreatDoor
open Go.RowKit Go.Lib

theorem info5 : (Tryz.prog.info? 5).map (fun i => (i.zero, i.size, i.bytes)) = some (some (.int .u8 0), 1, 1) := by kernel_rfl
theorem sizeB : (Tryz.prog.info? 103).map (·.size) = some 2 := by kernel_rfl

/-- A strings.Builder in a block, behind what is laid ahead of it there, holding bytes. -/
structure Bld (pre : List Value) (T : TypeId) (B b : Nat) (p : Value) (l : List UInt8) (w : World) : Prop where
  base : B ≤ b
  ex : ∃ v, w.heap[b]? = some (.cells (pre ++ [p, v]).toArray T (0, 0)) ∧ w.ownsRowF B 5 1 v (byteCells l).length (byteCells l) ∧ v.ownBlock ≠ some b
structure BOk (pre : List Value) (T : TypeId) (o : Nat) : Prop where
  len : pre.length = o
  lies : liesAt Tryz.prog Tryz.prog.depth T ((o + 2) / Tryz.prog.cellsOf T) o 103 1 = true
  ne : T ≠ 5

theorem pre_at0 {pre : List Value} {o : Nat} (h : pre.length = o) (p v : Value) : (pre ++ [p, v]).toArray[o]? = some p := by
  subst h; simp
theorem pre_at1 {pre : List Value} {o : Nat} (h : pre.length = o) (p v : Value) : (pre ++ [p, v]).toArray[o + 1]? = some v := by
  subst h; simp
theorem pre_set0 {pre : List Value} {o : Nat} (h : pre.length = o) (p v q : Value) : (pre ++ [p, v]).toArray.setIfInBounds o q = (pre ++ [q, v]).toArray := by
  subst h; simp
theorem pre_set1 {pre : List Value} {o : Nat} (h : pre.length = o) (p v q : Value) : (pre ++ [p, v]).toArray.setIfInBounds (o + 1) q = (pre ++ [p, q]).toArray := by
  subst h; simp [List.set_append_right]
theorem heap_set {w : World} {b i : Nat} {cs : Array Value} {T : TypeId} {fz : Nat × Nat} (q : Value) (h : w.heap[b]? = some (.cells cs T fz)) : (w.setCell ⟨b, i, none⟩ q).heap[b]? = some (.cells (cs.setIfInBounds i q) T fz) := by
  simp [World.setCell, Array.getElem?_modify, h]

section
variable {pre : List Value} {T : TypeId} {o B b : Nat} {p : Value} {l : List UInt8} {w : World}
theorem Bld.lt (h : Bld pre T B b p l w) : b < w.heap.size := by
  obtain ⟨v, hb, _⟩ := h.ex
  exact lt_of_block hb
theorem Bld.cell0 (h : Bld pre T B b p l w) (ho : pre.length = o) : w.cell? ⟨b, o, none⟩ = some p := by
  obtain ⟨v, hb, _⟩ := h.ex
  rw [cell_of_heap hb, pre_at0 ho]
theorem Bld.shape (h : Bld pre T B b p l w) (ho : pre.length = o) : w.shape? b = some (T, o + 2) := by
  obtain ⟨v, hb, _⟩ := h.ex
  subst ho
  simp [World.shape?, hb]
theorem Bld.frozen (h : Bld pre T B b p l w) (j : Nat) : w.frozen? ⟨b, j, none⟩ = false := by
  obtain ⟨v, hb, _⟩ := h.ex
  exact frozen_of_heap hb j
theorem Bld.used (h : Bld pre T B b p l w) (ho : pre.length = o) (q : Value) : Bld pre T B b q l (w.setCell ⟨b, o, none⟩ q) := by
  obtain ⟨v, hb, hown, hne⟩ := h.ex
  refine ⟨h.base, v, ?_, ?_, hne⟩
  · rw [heap_set q hb, pre_set0 ho]
  · refine hown.kept (row := some b) ⟨rfl, rfl, rfl, by simp [World.setCell], fun k _ hk => Below.heap_setCell _ _ _ _ (fun e => hk (by simp [e]))⟩ ?_
    exact Or.inr hne
theorem Bld.drew (h : Bld pre T B b p l w) : Bld pre T B b p l w.drew := ⟨h.base, h.ex⟩
theorem Bld.drewN (h : Bld pre T B b p l w) (n : Nat) : Bld pre T B b p l (w.drewN n) := ⟨h.base, h.ex⟩
theorem Bld.alloc (h : Bld pre T B b p l w) (o : Obj) : Bld pre T B b p l (w.alloc o) := by
  have hlt := h.lt
  obtain ⟨v, hb, hown, hne⟩ := h.ex
  exact ⟨h.base, v, (alloc_old w o b hlt).trans hb, hown.kept (World.grownBy_alloc w o none) (by cases hv : v.ownBlock <;> simp), hne⟩
theorem Bld.iterAt (h : Bld pre T B b p l w) {k : Nat} {s : ByteArray} {pos : Nat} (hk : w.heap[k]? = some (.stringIter s pos)) (pos' : Nat) : Bld pre T B b p l (w.iterAt k s pos') := by
  obtain ⟨v, hb, hown, hne⟩ := h.ex
  have hkb : b ≠ k := by
    intro e1
    rw [e1, hk] at hb
    cases hb
  refine ⟨h.base, v, (iterAt_other w k b s pos' hkb).trans hb, ⟨hown.1, ?_⟩, hne⟩
  rcases hown.2 with hn | ⟨g, cap, cur, fz, hv, hbg, hg, rest⟩
  · exact .inl hn
  · have hgk : g ≠ k := by
      intro e1
      rw [e1, hk] at hg
      cases hg
    exact .inr ⟨g, cap, cur, fz, hv, hbg, (iterAt_other w k g s pos' hgk).trans hg, rest⟩
end

def IsBld (pre : List Value) (T : TypeId) (o B b : Nat) (l : List UInt8) (w : World) : Prop :=
  Bld pre T B b (.pointer none) l w ∨ Bld pre T B b (.pointer (some ⟨b, o, none⟩)) l w
theorem IsBld.drewN {pre : List Value} {T : TypeId} {o B b : Nat} {l : List UInt8} {w : World} (h : IsBld pre T o B b l w) (n : Nat) : IsBld pre T o B b l (w.drewN n) := h.elim (fun h => .inl (h.drewN n)) (fun h => .inr (h.drewN n))
theorem IsBld.alloc {pre : List Value} {T : TypeId} {o B b : Nat} {l : List UInt8} {w : World} (h : IsBld pre T o B b l w) (x : Obj) : IsBld pre T o B b l (w.alloc x) := h.elim (fun h => .inl (h.alloc x)) (fun h => .inr (h.alloc x))
theorem IsBld.iterAt {pre : List Value} {T : TypeId} {o B b : Nat} {l : List UInt8} {w : World} (h : IsBld pre T o B b l w) {k : Nat} {s : ByteArray} {pos : Nat} (hk : w.heap[k]? = some (.stringIter s pos)) (pos' : Nat) : IsBld pre T o B b l (w.iterAt k s pos') := h.elim (fun h => .inl (h.iterAt hk pos')) (fun h => .inr (h.iterAt hk pos'))
theorem IsBld.lt {pre : List Value} {T : TypeId} {o B b : Nat} {l : List UInt8} {w : World} (h : IsBld pre T o B b l w) : b < w.heap.size := h.elim (fun h => h.lt) (fun h => h.lt)
theorem IsBld.base {pre : List Value} {T : TypeId} {o B b : Nat} {l : List UInt8} {w : World} (h : IsBld pre T o B b l w) : B ≤ b := h.elim (fun h => h.base) (fun h => h.base)

set_option maxHeartbeats 1000000 in
set_option maxRecDepth 100000 in
theorem copyCheck0 {pre : List Value} {T : TypeId} {o b : Nat} {w : World} (ok : BOk pre T o) (h0 : w.cell? ⟨b, o, none⟩ = some (.pointer none)) (hsh : w.shape? b = some (T, o + 2)) (hfz : w.frozen? ⟨b, o, none⟩ = false) :
    Calls Tryz.prog 121 #[.pointer (some ⟨b, o, none⟩)] w fun e w' => e = .returned (.tuple #[]) ∧ w' = w.setCell ⟨b, o, none⟩ (.pointer (some ⟨b, o, none⟩)) := by
  obtain ⟨j, hj, hjs⟩ := Option.map_eq_some_iff.1 sizeB
  have hl := ok.lies
  have hoff : o < o + 2 := by omega
  go_enter Tryz.func121, Tryz.ntmps121
  go_wp2
  rw [Lib.run_to_unsafe w ⟨b, o, none⟩ Tryz.underlying100 Tryz.underlying181 hj (by rw [hjs]; decide) hsh hoff]
  simp only [Result.andThen]
  rw [Oper.upon_value]
  go_wp2
  rw [run_callFunc_extern Tryz.func135 (by kernel_rfl) (by kernel_rfl) (by kernel_rfl) (e := Extern.AbiNoEscape.same) (by kernel_rfl)]
  rw [Lib.run_noEscape]
  simp only [Result.andThen]
  rw [Oper.upon_value]
  go_wp2
  rw [Lib.run_from_unsafe w ⟨b, o, none⟩ Tryz.underlying181 Tryz.underlying100 hj hsh hl]
  simp only [Result.andThen]
  rw [Oper.upon_value]
  go_wp2
  go_end0
  exact ⟨rfl, rfl⟩

set_option maxRecDepth 100000 in
theorem checkUsed {w : World} {b o : Nat} (h0 : w.cell? ⟨b, o, none⟩ = some (.pointer (some ⟨b, o, none⟩))) :
    Calls Tryz.prog 121 #[.pointer (some ⟨b, o, none⟩)] w fun e w' => e = .returned (.tuple #[]) ∧ w = w' := by
  obtain ⟨j, hj, _⟩ := Option.map_eq_some_iff.1 sizeB
  go_enter Tryz.func121, Tryz.ntmps121
  go_wp2
  rw [Lib.run_neq_ptr_same w _ Tryz.underlying100 hj]
  go_wp2
  go_end0
  exact ⟨rfl, rfl⟩

theorem check_any {pre : List Value} {T : TypeId} {o B b : Nat} {l : List UInt8} {w : World} (ok : BOk pre T o) (h : IsBld pre T o B b l w) :
    Calls Tryz.prog 121 #[.pointer (some ⟨b, o, none⟩)] w fun e w' => e = .returned (.tuple #[]) ∧ Bld pre T B b (.pointer (some ⟨b, o, none⟩)) l w' ∧ Below B w w' ∧ OthersKept 5 (some b) w w' ∧ w.heap.size = w'.heap.size := by
  rcases h with h | h
  · refine (copyCheck0 ok (h.cell0 ok.len) (h.shape ok.len) (h.frozen o)).mono ?_
    rintro e w' ⟨rfl, rfl⟩
    exact ⟨rfl, h.used ok.len _, (Below.refl B w).setCell (p := ⟨b, o, none⟩) h.base _, (OthersKept.refl 5 (some b) w).setCell ⟨b, o, none⟩ rfl _, by simp⟩
  · refine (checkUsed (h.cell0 ok.len)).mono ?_
    rintro e w' ⟨rfl, rfl⟩
    exact ⟨rfl, h, Below.refl B _, OthersKept.refl 5 (some b) _, rfl⟩

set_option maxHeartbeats 1000000 in
set_option maxRecDepth 100000 in
theorem write_any {pre : List Value} {T : TypeId} {o B b : Nat} {l : List UInt8} {w : World} (ok : BOk pre T o) (s : ByteArray) (h : IsBld pre T o B b l w) (hlen : l.length + s.size ≤ 140737488355328) (hBw : B ≤ w.heap.size) :
    Calls Tryz.prog 111 #[.pointer (some ⟨b, o, none⟩), .string s] w fun e w' => e = .returned (.tuple #[.int .i64 s.size, .nilIface]) ∧ Bld pre T B b (.pointer (some ⟨b, o, none⟩)) (l ++ s.data.toList) w' ∧ Below B w w' ∧ OthersKept 5 (some b) w w' := by
  obtain ⟨i0, hi, hz0, hz1, hz2⟩ := info_parts info5
  have HC := hidE (check_any ok h)
  have HOK := hidE ok
  have hbl := byteCells_length l
  clear h ok
  go_enter Tryz.func111, Tryz.ntmps111
  go_wp2_with (first
    | (go_at_call 121; refine (unhidE HC).mono ?_; rintro e w1 ⟨rfl, hB1, hb1, hk1, hz1'⟩; have HB1 := hidE hB1; have HBB := hidE hb1; have HK1 := hidE hk1; have HZ1 := hidE hz1'; obtain ⟨v, hbk, hown, hne⟩ := hB1.ex; have c1 := (cell_of_heap hbk (o + 1)).trans (pre_at1 (unhidE HOK).len _ _); clear hB1 hb1 hk1 hz1')
    | (at_builtin; refine Lib.wpList_append_own_stringF _ rfl _ _ 101 9 rfl B 5 i0 Tryz.underlying101 Tryz.underlying9 hi hz0 hz1 hz2 _ _ _ rfl hown s rfl ?c3 ?c4 ?c5 ?_))
  case c3 => unfold maxLen; omega
  case c4 => omega
  case c5 => rw [← unhidE HZ1]; omega
  intro v' w2 hown' hgrow _
  have hlt : b < w1.heap.size := lt_of_block hbk
  have hb2 : w2.heap[b]? = some (.cells (pre ++ [.pointer (some ⟨b, o, none⟩), v]).toArray T (0, 0)) := by
    rw [hgrow.block b hlt (fun e => hne e.symm)]
    exact hbk
  have d1 : w2.cell? ⟨b, o + 1, none⟩ = some v := (cell_of_heap hb2 (o + 1)).trans (pre_at1 (unhidE HOK).len _ _)
  have f1 : w2.frozen? ⟨b, o + 1, none⟩ = false := Lib.frozen_of_heap hb2 (o + 1)
  obtain ⟨ao, n', cap, rfl⟩ : ∃ ao n' cap, v' = .slice ao n' cap := by
    rcases hown'.2 with ⟨hv, _⟩ | ⟨g, cap, cur, fz, hv, _⟩
    · exact ⟨_, _, _, hv⟩
    · exact ⟨_, _, _, hv⟩
  have HG := hidE hgrow
  have HO := hidE hown
  have HO' := hidE hown'
  have HH := hidE hb2
  clear hgrow hown hown' hb2 hbk hne hlt c1
  go_wp2
  go_ret2
  have hown2 : w2.ownsRowF B 5 1 (.slice ao n' cap) (byteCells (l ++ s.data.toList)).length (byteCells (l ++ s.data.toList)) := by
    have := unhidE HO'
    rw [byteCells_append, List.length_append, ← strCells_eq, strCells_length, hbl]
    exact this
  have hne' := ownBlock_neF hown2 (unhidE HH) (unhidE HOK).ne
  have hBw1 : B ≤ w1.heap.size := by rw [← unhidE HZ1]; exact hBw
  refine ⟨rfl, ⟨(unhidE HB1).base, .slice ao n' cap, ?_, ?_, hne'⟩, ?_, ?_⟩
  · rw [heap_set _ (unhidE HH), pre_set1 (unhidE HOK).len]
  · exact hown2.kept (row := some b) ⟨rfl, rfl, rfl, by simp [World.setCell], fun k _ hk => Below.heap_setCell _ _ _ _ (fun e => hk (by simp [e]))⟩ (Or.inr hne')
  · exact ((unhidE HBB).trans ((Below.refl B w1).grown (unhidE HG) hBw1 (fun k hk => ((unhidE HO).lt k hk).1))).setCell (p := ⟨b, o + 1, none⟩) (unhidE HB1).base _
  · exact ((unhidE HK1).trans ((Lib.OthersKept.refl 5 (some b) w1).grown (unhidE HG) (Lib.ownsRowF_kind (unhidE HO)))).setCell ⟨b, o + 1, none⟩ rfl _

def wordS (attr : Bool) (r : Int) : ByteArray := ⟨(wordL attr r).toArray⟩
theorem words (attr : Bool) : (wordS attr 38 = ⟨#[38, 97, 109, 112, 59]⟩) ∧ wordS attr 160 = ⟨#[38, 110, 98, 115, 112, 59]⟩ ∧ wordS attr 34 = (if attr then ⟨#[38, 113, 117, 111, 116, 59]⟩ else ⟨#[]⟩) ∧ wordS attr 60 = (if attr then ⟨#[]⟩ else ⟨#[38, 108, 116, 59]⟩) ∧ wordS attr 62 = (if attr then ⟨#[]⟩ else ⟨#[38, 103, 116, 59]⟩) := by
  cases attr <;> decide +kernel
theorem word_other (attr : Bool) (r : Int) (h1 : r ≠ 38) (h2 : r ≠ 160) (h3 : r ≠ 34) (h4 : r ≠ 60) (h5 : r ≠ 62) : wordS attr r = ⟨#[]⟩ := by
  unfold wordS wordL
  rw [if_neg h1, if_neg h2, if_neg h3, if_neg h4, if_neg h5]

set_option maxHeartbeats 1000000 in
theorem reference_any (r : Int) (attr : Bool) (w : World) : Calls Tryz.prog 112 #[.int .i32 r, .bool attr] w fun e w' => e = .returned (.string (wordS attr r)) ∧ w' = w := by
  obtain ⟨e1, e2, e3, e4, e5⟩ := words attr
  by_cases h1 : r = 38
  · subst h1
    rw [e1]
    clear e1 e2 e3 e4 e5
    go_enter Tryz.func112, Tryz.ntmps112
    go_wp2
    go_ret
    exact ⟨rfl, rfl⟩
  · by_cases h2 : r = 160
    · subst h2
      rw [e2]
      clear e1 e2 e3 e4 e5 h1
      go_enter Tryz.func112, Tryz.ntmps112
      go_wp2
      go_ret
      exact ⟨rfl, rfl⟩
    · by_cases h3 : r = 34
      · subst h3
        rw [e3]
        clear e1 e2 e3 e4 e5 h1 h2
        cases attr
        all_goals go_enter Tryz.func112, Tryz.ntmps112
        all_goals go_wp2
        all_goals go_ret
        all_goals exact ⟨rfl, rfl⟩
      · by_cases h4 : r = 60
        · subst h4
          rw [e4]
          clear e1 e2 e3 e4 e5 h1 h2 h3
          cases attr
          all_goals go_enter Tryz.func112, Tryz.ntmps112
          all_goals go_wp2
          all_goals go_ret
          all_goals exact ⟨rfl, rfl⟩
        · by_cases h5 : r = 62
          · subst h5
            rw [e5]
            clear e1 e2 e3 e4 e5 h1 h2 h3 h4
            cases attr
            all_goals go_enter Tryz.func112, Tryz.ntmps112
            all_goals go_wp2
            all_goals go_ret
            all_goals exact ⟨rfl, rfl⟩
          · rw [word_other attr r h1 h2 h3 h4 h5]
            clear e1 e2 e3 e4 e5
            have b1 : (r == 38) = false := by simpa using h1
            have b2 : (r == 160) = false := by simpa using h2
            have b3 : (r == 34) = false := by simpa using h3
            have b4 : (r == 60) = false := by simpa using h4
            have b5 : (r == 62) = false := by simpa using h5
            cases attr
            all_goals go_enter Tryz.func112, Tryz.ntmps112
            all_goals go_wp2
            all_goals go_ret
            all_goals exact ⟨rfl, rfl⟩

set_option maxHeartbeats 1000000 in
theorem runeLen_low (r : Int) (h0 : 0 ≤ r) (h1 : r ≤ 127) (w : World) : Calls Tryz.prog 113 #[.int .i32 r] w fun e w' => e = .returned (.int .i64 1) ∧ w' = w := by
  have k0 : ¬ r < 0 := by omega
  go_enter Tryz.func113, Tryz.ntmps113
  go_wp2
  go_ret
  exact ⟨rfl, rfl⟩
theorem runeLen_160 (w : World) : Calls Tryz.prog 113 #[.int .i32 160] w fun e w' => e = .returned (.int .i64 2) ∧ w' = w := by
  go_enter Tryz.func113, Tryz.ntmps113
  go_wp2
  go_ret
  exact ⟨rfl, rfl⟩
theorem runeLen_word (attr : Bool) (r : Int) (hr : wordL attr r ≠ []) (w : World) : Calls Tryz.prog 113 #[.int .i32 r] w fun e w' => e = .returned (.int .i64 (wideN r : Nat)) ∧ w' = w := by
  unfold wideN
  by_cases h : r = 160
  · subst h; exact runeLen_160 w
  · rw [if_neg h]
    have : 0 ≤ r ∧ r ≤ 127 := by
      unfold wordL at hr
      rw [if_neg h] at hr
      by_cases h1 : r = 38
      · omega
      · by_cases h2 : r = 34
        · omega
        · by_cases h3 : r = 60
          · omega
          · by_cases h4 : r = 62
            · omega
            · rw [if_neg h1, if_neg h2, if_neg h3, if_neg h4] at hr
              exact absurd rfl hr
    exact runeLen_low r this.1 this.2 w
end Go.Proofs.YtmnmaenmoaehlaaGreatDoor

namespace Go.Proofs.YtmnmaenmoaehlaaGreatDoor
open Go.RowKit Go.Lib

set_option maxHeartbeats 1000000 in
set_option maxRecDepth 100000 in
theorem string_row {pre : List Value} {T : TypeId} {o B b : Nat} {p : Value} {l : List UInt8} {w : World} (ok : BOk pre T o) (h : Bld pre T B b p l w) (h0 : l ≠ []) :
    Calls Tryz.prog 48 #[.pointer (some ⟨b, o, none⟩)] w fun e w' => e = .returned (.string ⟨l.toArray⟩) ∧ Below B w w' := by
  obtain ⟨v, hbk, hown, hne⟩ := h.ex
  have hl0 : l.length ≠ 0 := by simpa using h0
  rw [byteCells_length] at hown
  obtain ⟨g, cap, cur, fz, rfl, hbg, hg, hnc, hcm, hcs⟩ : ∃ g cap cur fz, v = .slice (some ⟨g, 0, none⟩) l.length cap ∧ B ≤ g ∧ w.heap[g]? = some (.cells cur 5 fz) ∧ l.length ≤ cap ∧ cap ≤ maxLen ∧ cur.size = cap * 1 := by
    rcases hown.2 with ⟨_, hz⟩ | ⟨g, cap, cur, fz, hv, h1, h2, _, h3, h4, h5, _⟩
    · exact absurd hz hl0
    · exact ⟨g, cap, cur, fz, hv, h1, h2, h3, h4, h5⟩
  have hbk' : w.drew.heap[b]? = some (.cells (pre ++ [p, .slice (some ⟨g, 0, none⟩) l.length cap]).toArray T (0, 0)) := hbk
  have c1 : w.drew.cell? ⟨b, o + 1, none⟩ = some (.slice (some ⟨g, 0, none⟩) l.length cap) := by
    rw [cell_of_heap hbk']; exact pre_at1 ok.len _ _
  have hSD : (Builtin.unsafeSliceData_ #[101] 122 #[.slice (some ⟨g, 0, none⟩) l.length cap]).run Tryz.prog w.drew = .ok (.pointer (some ⟨g, 0, none⟩)) w.drew :=
    Lib.run_unsafeSliceData_row _ _ _ _ _ _ (by omega)
  have hUS : (Builtin.unsafeString_ #[122, 3] 9 #[.pointer (some ⟨g, 0, none⟩), .int .i64 l.length]).run Tryz.prog w.drew = .ok (.string ⟨l.toArray⟩) (w.drew.freeze ⟨g, 0, none⟩ l.length) := by
    refine Lib.run_unsafeString_row w.drew 122 3 9 5 Tryz.underlying122 (by kernel_rfl) g cur.size (by have hg' : w.drew.heap[g]? = some (.cells cur 5 fz) := hg; simp [World.shape?, hg']) l h0 (by omega) (by unfold maxLen at hcm; omega) ?_
    intro j x hx
    exact hown.cells (g := g) rfl j (.int .u8 x.toNat) (by simp [Lib.byteCells, hx])
  have HBB := hidE (Lib.below_freeze (Below.drew (Below.refl B w)) (p := ⟨g, 0, none⟩) hbg l.length)
  have mixed : Tryz.prog.follows Departure.mixedOrders = true := by kernel_rfl
  clear hown hne hl0 hg hnc hcm hcs hbk hbk' hbg h0 h
  go_enter Tryz.func48, Tryz.ntmps48
  go_wp2
  go_region_o
  all_goals (go_wp2; go_ret; exact ⟨rfl, unhidE HBB⟩)
end Go.Proofs.YtmnmaenmoaehlaaGreatDoor
