/-
  The document's Escape; WriteEscapes' walk.
-/
import Derived.Test.YtmnmaenmoaehlaaGreatDoorSZaj
import Derived.Laws.IdiomStrings
import Derived.Laws.AppendOwn
namespace Go.Proofs.YtmnmaenmoaehlaaGreatDoor
open Go.RowKit Go.Lib

theorem at_drop {l : List UInt8} {i : Nat} {c : UInt8} (h : l[i]? = some c) : l.drop i = c :: l.drop (i + 1) := by
  obtain ⟨hi, e⟩ := List.getElem?_eq_some_iff.1 h
  rw [← e]
  exact List.drop_eq_getElem_cons hi
theorem esc_at1 {attr : Bool} {l : List UInt8} {i : Nat} {c : UInt8} (h : l[i]? = some c) (hn : ¬ (c = 194 ∧ l[i + 1]? = some 160)) : escL attr (l.drop i) = oneL attr c ++ escL attr (l.drop (i + 1)) := by
  rw [at_drop h, esc_one]
  rw [List.getElem?_drop]
  exact hn
theorem esc_at2 {attr : Bool} {l : List UInt8} {i : Nat} (h : l[i]? = some 194) (h2 : l[i + 1]? = some 160) : escL attr (l.drop i) = nbspL ++ escL attr (l.drop (i + 2)) := by
  rw [at_drop h, at_drop h2, esc_two]
theorem data_at (s : ByteArray) (j : Nat) (h : j < s.size) : s.data.toList[j]? = some (s[j]'h) := by
  have h' : j < s.data.size := h
  rw [Array.getElem?_toList, Array.getElem?_eq_getElem h']
  rfl

structure OutAt (w wx : World) (attr : Bool) (l : List UInt8) (i : Nat) (v : Value) (out : List UInt8) : Prop where
  own : wx.ownsRow w.heap.size 5 1 v (byteCells out).length (byteCells out)
  eq : escL attr l = out ++ escL attr (l.drop i)
  len : out.length ≤ 6 * i
  below : Below w.heap.size w wx

theorem own_slice {w : World} {B : Nat} {v : Value} {n : Nat} {xs : List Value} (h : w.ownsRow B 5 1 v n xs) : ∃ a c, v = .slice a n c := by
  rcases h.2 with ⟨rfl, rfl⟩ | ⟨g, cap, cur, hv, _⟩
  · exact ⟨none, 0, rfl⟩
  · exact ⟨_, cap, hv⟩

theorem OutAt.word {w wx w' : World} {attr : Bool} {l : List UInt8} {i i' : Nat} {v v' : Value} {out : List UInt8} {k : ByteArray} (h : OutAt w wx attr l i v out) (hg : wx.grownBy w' v.ownBlock) (ho : w'.ownsRow w.heap.size 5 1 v' ((byteCells out).length + k.size) (byteCells out ++ strCells k)) (hii : i < i') (hk : k.size ≤ 6)
    (he : escL attr (l.drop i) = k.data.toList ++ escL attr (l.drop i')) : OutAt w w' attr l i' v' (out ++ k.data.toList) := by
  have hkl : k.data.toList.length = k.size := len_data k
  refine ⟨?_, ?_, ?_, (h.below).trans ((Below.refl _ wx).grown hg h.below.size (fun q hq => (h.own.lt q hq).1))⟩
  · rw [byteCells_append, List.length_append, byteCells_length k.data.toList, hkl]
    exact ho
  · rw [h.eq, he, List.append_assoc]
  · rw [List.length_append, hkl]; have := h.len; omega

theorem oneB_news (w : World) (x : Int) : ∀ j u, ([.int .u8 x] : List Value)[j]? = some u → (w.alloc (.cells #[.int .u8 x] 5)).cell? ((⟨w.heap.size, 0, none⟩ : Addr).add j) = some u := by
  intro j u h
  cases j with
  | zero =>
    have e : u = .int .u8 x := by simpa using h.symm
    subst e
    have : (⟨w.heap.size, 0, none⟩ : Addr).add 0 = ⟨w.heap.size, 0, none⟩ := by unfold Addr.add; split <;> simp_all
    rw [this, cell_row _ w.heap.size 0 _ _ _ (heap_alloc_new w _)]
    rfl
  | succ j => simp at h
theorem OutAt.one {w wx w' : World} {attr : Bool} {l : List UInt8} {i : Nat} {v v' : Value} {out : List UInt8} {c : UInt8} {o : Obj} (h : OutAt w wx attr l i v out) (hg : (wx.alloc o).grownBy w' v.ownBlock) (ho : w'.ownsRow w.heap.size 5 1 v' ((byteCells out).length + 1) (byteCells out ++ [.int .u8 (c.toNat : Int)]))
    (he : escL attr (l.drop i) = [c] ++ escL attr (l.drop (i + 1))) : OutAt w w' attr l (i + 1) v' (out ++ [c]) := by
  have hb1 : Below w.heap.size w (wx.alloc o) := h.below.alloc h.below.size o
  refine ⟨?_, ?_, ?_, hb1.trans ((Below.refl _ _).grown hg hb1.size (fun q hq => (h.own.lt q hq).1))⟩
  · rw [byteCells_append, List.length_append]
    exact ho
  · rw [h.eq, he, List.append_assoc]
  · rw [List.length_append]; have := h.len; simp; omega
theorem conv_back {w : World} {B : Nat} {v : Value} {out : List UInt8} (h : w.ownsRow B 5 1 v (byteCells out).length (byteCells out)) : (convert 101 9 v).run Tryz.prog w = .ok (.string ⟨out.toArray⟩) w := by
  have hc := fun g (hg : v.ownBlock = some g) => h.cells (g := g) hg
  rcases h.2 with ⟨rfl, h0⟩ | ⟨g, cap, cur, rfl, _⟩
  · have : out = [] := by rw [byteCells_length] at h0; exact List.eq_nil_of_length_eq_zero h0
    subst this
    rw [run_convert_bytes_string w 101 9 5 none 0 0 Tryz.underlying101 Tryz.underlying5 Tryz.underlying9]
    rfl
  · rw [byteCells_length]
    refine run_convert_bytes_back (P := Tryz.prog) w 101 9 5 ⟨g, 0, none⟩ cap out Tryz.underlying101 Tryz.underlying5 Tryz.underlying9 (fun j hj => ?_)
    exact hc g rfl j _ (by simp [byteCells, hj])

set_option maxHeartbeats 4000000 in
set_option maxRecDepth 10000 in
theorem rescape_any (s : ByteArray) (attr : Bool) (w : World) (hs : 6 * s.size ≤ 140737488355328) :
    Calls Tryz.prog 96 #[.string s, .bool attr] w fun e w' => e = .returned (.string (escS attr s)) ∧ Below w.heap.size w w' := by
  obtain ⟨i0, hi, hz0, hz1, hz2⟩ := info_parts info5
  have hsz : (s.size : Int) ≤ 140737488355328 := by omega
  have hsn : 6 * s.size ≤ 140737488355328 := hs
  have HSN := hidE hsn
  clear hs hsn
  go_enter Tryz.func96, Tryz.ntmps96
  go_wp2
  go_loopg [5, 6] s.size (fun k s5 s6 wx => ∃ (i : Nat) (out : List UInt8), s6 = .int .i64 i ∧ i + k = s.size ∧ OutAt w wx attr s.data.toList i s5 out)
  case atStart => exact ⟨0, [], rfl, by omega, World.ownsRow_nil _ _ _ _, by simp, by simp, Below.refl _ w⟩
  case round =>
    obtain ⟨i, out, rfl, hik, ho⟩ := hrel
    have hol := ho.len
    have hbl := byteCells_length out
    have HO := hidE ho
    clear ho
    by_cases hj : i < s.size
    · have hjz : (i : Int) < (s.size : Int) := by omega
      have hdat := data_at s i hj
      obtain ⟨c, hc⟩ : ∃ c : UInt8, s[i]'hj = c := ⟨_, rfl⟩
      rw [hc] at hdat
      have hc0 : (0 : Int) ≤ (c.toNat : Int) := by omega
      have hc1 : (c.toNat : Int) ≤ 255 := by have := c.toNat_lt; omega
      have ne : ∀ k : UInt8, c ≠ k → ((c.toNat : Int) == (k.toNat : Int)) = false := fun k hk => by
        rw [beq_eq_false_iff_ne]; intro e; apply hk; apply UInt8.toNat_inj.1; omega
      have yes : ∀ k : UInt8, c = k → ((c.toNat : Int) == (k.toNat : Int)) = true := fun k hk => by rw [hk]; simp
      have HD := hidE hdat
      have NE := hidE ne
      have YES := hidE yes
      clear hdat ne yes
      by_cases h38 : c = 38
      · have q38 : ((c.toNat : Int) == 38) = true := (unhidE YES) 38 h38
        have HEQ : escL attr (s.data.toList.drop i) = (⟨#[38, 97, 109, 112, 59]⟩ : ByteArray).data.toList ++ escL attr (s.data.toList.drop (i + 1)) := by rw [esc_at1 (unhidE HD) (fun e => absurd (h38.symm.trans e.1) (by decide)), h38]; rfl
        have HW : Hid (∀ w2 v', wr.grownBy w2 u5.ownBlock → w2.ownsRow w.heap.size 5 1 v' ((byteCells out).length + (⟨#[38, 97, 109, 112, 59]⟩ : ByteArray).size) (byteCells out ++ strCells ⟨#[38, 97, 109, 112, 59]⟩) → OutAt w w2 attr s.data.toList (i + 1) v' (out ++ (⟨#[38, 97, 109, 112, 59]⟩ : ByteArray).data.toList)) := hidE (fun w2 v' hg ho => (unhidE HO).word hg ho (by omega) (by decide) HEQ)
        have hroom : (byteCells out).length + (⟨#[38, 97, 109, 112, 59]⟩ : ByteArray).size ≤ 140737488355328 := by have h1 : (⟨#[38, 97, 109, 112, 59]⟩ : ByteArray).size = 5 := rfl; have h2 := unhidE HSN; omega
        clear HEQ
        go_wp2_with (at_builtin; refine Lib.wpList_append_own_string _ rfl _ _ 101 9 rfl w.heap.size 5 i0 Tryz.underlying101 Tryz.underlying9 hi hz0 hz1 hz2 u5 _ _ rfl (unhidE HO).own ⟨#[38, 97, 109, 112, 59]⟩ rfl (by unfold maxLen; omega) hroom (unhidE HO).below.size ?_; intro v' w2 ho2 hg2 _; have HO2 := hidE ((unhidE HW) w2 v' hg2 ho2); clear ho2 hg2)
        go_roundg (gk - 1)
        case measure => omega
        case rel => exact ⟨i + 1, _, by go_num, by omega, unhidE HO2⟩
      · by_cases h194 : c = 194
        · have h34 : c ≠ 34 := by rw [h194]; decide
          have h60 : c ≠ 60 := by rw [h194]; decide
          have h62 : c ≠ 62 := by rw [h194]; decide
          have hone : oneL attr c = [c] := one_high attr c (by rw [h194]; decide)
          by_cases hj2 : i + 1 < s.size
          · have hj2z : (i : Int) + 1 < (s.size : Int) := by omega
            have hd2 := data_at s (i + 1) hj2
            obtain ⟨d, hd⟩ : ∃ d : UInt8, s[i + 1]'hj2 = d := ⟨_, rfl⟩
            rw [hd] at hd2
            have hd0 : (0 : Int) ≤ (d.toNat : Int) := by omega
            have hd1 : (d.toNat : Int) ≤ 255 := by have := d.toNat_lt; omega
            by_cases h160 : d = 160
            · have q160 : ((d.toNat : Int) == 160) = true := by rw [h160]; rfl
              have q38 : ((c.toNat : Int) == 38) = false := (unhidE NE) 38 h38
              have q194 : ((c.toNat : Int) == 194) = true := (unhidE YES) 194 h194
              have HEQ : escL attr (s.data.toList.drop i) = (⟨#[38, 110, 98, 115, 112, 59]⟩ : ByteArray).data.toList ++ escL attr (s.data.toList.drop (i + 2)) := by rw [esc_at2 (by rw [← h194]; exact unhidE HD) (by rw [← h160]; exact hd2)]; rfl
              have HW : Hid (∀ w2 v', wr.grownBy w2 u5.ownBlock → w2.ownsRow w.heap.size 5 1 v' ((byteCells out).length + (⟨#[38, 110, 98, 115, 112, 59]⟩ : ByteArray).size) (byteCells out ++ strCells ⟨#[38, 110, 98, 115, 112, 59]⟩) → OutAt w w2 attr s.data.toList (i + 2) v' (out ++ (⟨#[38, 110, 98, 115, 112, 59]⟩ : ByteArray).data.toList)) := hidE (fun w2 v' hg ho => (unhidE HO).word hg ho (by omega) (by decide) HEQ)
              have hroom : (byteCells out).length + (⟨#[38, 110, 98, 115, 112, 59]⟩ : ByteArray).size ≤ 140737488355328 := by have h1 : (⟨#[38, 110, 98, 115, 112, 59]⟩ : ByteArray).size = 6 := rfl; have h2 := unhidE HSN; omega
              clear HEQ
              go_wp2_with (at_builtin; refine Lib.wpList_append_own_string _ rfl _ _ 101 9 rfl w.heap.size 5 i0 Tryz.underlying101 Tryz.underlying9 hi hz0 hz1 hz2 u5 _ _ rfl (unhidE HO).own ⟨#[38, 110, 98, 115, 112, 59]⟩ rfl (by unfold maxLen; omega) hroom (unhidE HO).below.size ?_; intro v' w2 ho2 hg2 _; have HO2 := hidE ((unhidE HW) w2 v' hg2 ho2); clear ho2 hg2)
              go_roundg (gk - 2)
              case measure => omega
              case rel => exact ⟨i + 2, _, by go_num, by omega, unhidE HO2⟩
            · have q160 : ((d.toNat : Int) == 160) = false := by rw [beq_eq_false_iff_ne]; intro e; apply h160; apply UInt8.toNat_inj.1; have : (160 : UInt8).toNat = 160 := rfl; omega
              have q38 : ((c.toNat : Int) == 38) = false := (unhidE NE) 38 h38
              have q194 : ((c.toNat : Int) == 194) = true := (unhidE YES) 194 h194
              have q34 : ((c.toNat : Int) == 34) = false := (unhidE NE) 34 h34
              have q60 : ((c.toNat : Int) == 60) = false := (unhidE NE) 60 h60
              have q62 : ((c.toNat : Int) == 62) = false := (unhidE NE) 62 h62
              have HEQ : escL attr (s.data.toList.drop i) = [c] ++ escL attr (s.data.toList.drop (i + 1)) := by rw [esc_at1 (unhidE HD) (fun e => h160 (Option.some.inj (hd2.symm.trans e.2))), hone]
              have HO1 := hidE ((unhidE HO).own.alloc (.cells #[.int .u8 (c.toNat : Int)] 5))
              have HW : Hid (∀ w2 v', (wr.alloc (.cells #[.int .u8 (c.toNat : Int)] 5)).grownBy w2 u5.ownBlock → w2.ownsRow w.heap.size 5 1 v' ((byteCells out).length + 1) (byteCells out ++ [.int .u8 (c.toNat : Int)]) → OutAt w w2 attr s.data.toList (i + 1) v' (out ++ [c])) := hidE (fun w2 v' hg ho => (unhidE HO).one hg ho HEQ)
              have hroom : (byteCells out).length + 1 ≤ 140737488355328 := by have h2 := unhidE HSN; omega
              have hbs : w.heap.size ≤ (wr.alloc (.cells #[.int .u8 (c.toNat : Int)] 5)).heap.size := by have := (unhidE HO).below.size; simp; omega
              clear HEQ
              clear h194
              go_wp2_with (at_builtin; refine wpList_append_own _ rfl _ _ 101 rfl w.heap.size 5 i0 _ 1 1 Tryz.underlying101 hi hz0 hz1 hz2 rfl (by omega) u5 _ _ rfl (unhidE HO1) ⟨wr.heap.size, 0, none⟩ 1 1 [.int .u8 (c.toNat : Int)] rfl rfl (oneB_news wr (c.toNat : Int)) (by intro u hu; simp at hu; subst hu; rfl) (by unfold maxLen; omega) (by omega) hbs ?_; intro v' w2 ho2 hg2 _; have HO2 := hidE ((unhidE HW) w2 v' hg2 ho2); clear ho2 hg2)
              go_roundg (gk - 1)
              case measure => omega
              case rel => exact ⟨i + 1, _, by go_num, by omega, unhidE HO2⟩
          · have hj2z : ¬ (i : Int) + 1 < (s.size : Int) := by omega
            have q38 : ((c.toNat : Int) == 38) = false := (unhidE NE) 38 h38
            have q194 : ((c.toNat : Int) == 194) = true := (unhidE YES) 194 h194
            have q34 : ((c.toNat : Int) == 34) = false := (unhidE NE) 34 h34
            have q60 : ((c.toNat : Int) == 60) = false := (unhidE NE) 60 h60
            have q62 : ((c.toNat : Int) == 62) = false := (unhidE NE) 62 h62
            have HEQ : escL attr (s.data.toList.drop i) = [c] ++ escL attr (s.data.toList.drop (i + 1)) := by rw [esc_at1 (unhidE HD) (fun e => by have h := (List.getElem?_eq_some_iff.1 e.2).1; rw [len_data] at h; omega), hone]
            have HO1 := hidE ((unhidE HO).own.alloc (.cells #[.int .u8 (c.toNat : Int)] 5))
            have HW : Hid (∀ w2 v', (wr.alloc (.cells #[.int .u8 (c.toNat : Int)] 5)).grownBy w2 u5.ownBlock → w2.ownsRow w.heap.size 5 1 v' ((byteCells out).length + 1) (byteCells out ++ [.int .u8 (c.toNat : Int)]) → OutAt w w2 attr s.data.toList (i + 1) v' (out ++ [c])) := hidE (fun w2 v' hg ho => (unhidE HO).one hg ho HEQ)
            have hroom : (byteCells out).length + 1 ≤ 140737488355328 := by have h2 := unhidE HSN; omega
            have hbs : w.heap.size ≤ (wr.alloc (.cells #[.int .u8 (c.toNat : Int)] 5)).heap.size := by have := (unhidE HO).below.size; simp; omega
            clear HEQ
            clear h194
            go_wp2_with (at_builtin; refine wpList_append_own _ rfl _ _ 101 rfl w.heap.size 5 i0 _ 1 1 Tryz.underlying101 hi hz0 hz1 hz2 rfl (by omega) u5 _ _ rfl (unhidE HO1) ⟨wr.heap.size, 0, none⟩ 1 1 [.int .u8 (c.toNat : Int)] rfl rfl (oneB_news wr (c.toNat : Int)) (by intro u hu; simp at hu; subst hu; rfl) (by unfold maxLen; omega) (by omega) hbs ?_; intro v' w2 ho2 hg2 _; have HO2 := hidE ((unhidE HW) w2 v' hg2 ho2); clear ho2 hg2)
            go_roundg (gk - 1)
            case measure => omega
            case rel => exact ⟨i + 1, _, by go_num, by omega, unhidE HO2⟩
        · have hnn : ¬ (c = 194 ∧ s.data.toList[i + 1]? = some 160) := fun e => h194 e.1
          by_cases h34 : c = 34
          · cases attr
            · have q38 : ((c.toNat : Int) == 38) = false := (unhidE NE) 38 h38
              have q194 : ((c.toNat : Int) == 194) = false := (unhidE NE) 194 h194
              have q34 : ((c.toNat : Int) == 34) = true := (unhidE YES) 34 h34
              have h60 : c ≠ 60 := by rw [h34]; decide
              have h62 : c ≠ 62 := by rw [h34]; decide
              have q60 : ((c.toNat : Int) == 60) = false := (unhidE NE) 60 h60
              have q62 : ((c.toNat : Int) == 62) = false := (unhidE NE) 62 h62
              have HEQ : escL false (s.data.toList.drop i) = [c] ++ escL false (s.data.toList.drop (i + 1)) := by rw [esc_at1 (unhidE HD) hnn, h34]; rfl
              have HO1 := hidE ((unhidE HO).own.alloc (.cells #[.int .u8 (c.toNat : Int)] 5))
              have HW : Hid (∀ w2 v', (wr.alloc (.cells #[.int .u8 (c.toNat : Int)] 5)).grownBy w2 u5.ownBlock → w2.ownsRow w.heap.size 5 1 v' ((byteCells out).length + 1) (byteCells out ++ [.int .u8 (c.toNat : Int)]) → OutAt w w2 false s.data.toList (i + 1) v' (out ++ [c])) := hidE (fun w2 v' hg ho => (unhidE HO).one hg ho HEQ)
              have hroom : (byteCells out).length + 1 ≤ 140737488355328 := by have h2 := unhidE HSN; omega
              have hbs : w.heap.size ≤ (wr.alloc (.cells #[.int .u8 (c.toNat : Int)] 5)).heap.size := by have := (unhidE HO).below.size; simp; omega
              clear HEQ
              clear h34
              go_wp2_with (at_builtin; refine wpList_append_own _ rfl _ _ 101 rfl w.heap.size 5 i0 _ 1 1 Tryz.underlying101 hi hz0 hz1 hz2 rfl (by omega) u5 _ _ rfl (unhidE HO1) ⟨wr.heap.size, 0, none⟩ 1 1 [.int .u8 (c.toNat : Int)] rfl rfl (oneB_news wr (c.toNat : Int)) (by intro u hu; simp at hu; subst hu; rfl) (by unfold maxLen; omega) (by omega) hbs ?_; intro v' w2 ho2 hg2 _; have HO2 := hidE ((unhidE HW) w2 v' hg2 ho2); clear ho2 hg2)
              go_roundg (gk - 1)
              case measure => omega
              case rel => exact ⟨i + 1, _, by go_num, by omega, unhidE HO2⟩
            · have q38 : ((c.toNat : Int) == 38) = false := (unhidE NE) 38 h38
              have q194 : ((c.toNat : Int) == 194) = false := (unhidE NE) 194 h194
              have q34 : ((c.toNat : Int) == 34) = true := (unhidE YES) 34 h34
              have HEQ : escL true (s.data.toList.drop i) = (⟨#[38, 113, 117, 111, 116, 59]⟩ : ByteArray).data.toList ++ escL true (s.data.toList.drop (i + 1)) := by rw [esc_at1 (unhidE HD) hnn, h34]; rfl
              have HW : Hid (∀ w2 v', wr.grownBy w2 u5.ownBlock → w2.ownsRow w.heap.size 5 1 v' ((byteCells out).length + (⟨#[38, 113, 117, 111, 116, 59]⟩ : ByteArray).size) (byteCells out ++ strCells ⟨#[38, 113, 117, 111, 116, 59]⟩) → OutAt w w2 true s.data.toList (i + 1) v' (out ++ (⟨#[38, 113, 117, 111, 116, 59]⟩ : ByteArray).data.toList)) := hidE (fun w2 v' hg ho => (unhidE HO).word hg ho (by omega) (by decide) HEQ)
              have hroom : (byteCells out).length + (⟨#[38, 113, 117, 111, 116, 59]⟩ : ByteArray).size ≤ 140737488355328 := by have h1 : (⟨#[38, 113, 117, 111, 116, 59]⟩ : ByteArray).size = 6 := rfl; have h2 := unhidE HSN; omega
              clear HEQ
              go_wp2_with (at_builtin; refine Lib.wpList_append_own_string _ rfl _ _ 101 9 rfl w.heap.size 5 i0 Tryz.underlying101 Tryz.underlying9 hi hz0 hz1 hz2 u5 _ _ rfl (unhidE HO).own ⟨#[38, 113, 117, 111, 116, 59]⟩ rfl (by unfold maxLen; omega) hroom (unhidE HO).below.size ?_; intro v' w2 ho2 hg2 _; have HO2 := hidE ((unhidE HW) w2 v' hg2 ho2); clear ho2 hg2)
              go_roundg (gk - 1)
              case measure => omega
              case rel => exact ⟨i + 1, _, by go_num, by omega, unhidE HO2⟩
          · by_cases h60 : c = 60
            · cases attr
              · have q38 : ((c.toNat : Int) == 38) = false := (unhidE NE) 38 h38
                have q194 : ((c.toNat : Int) == 194) = false := (unhidE NE) 194 h194
                have q34 : ((c.toNat : Int) == 34) = false := (unhidE NE) 34 h34
                have q60 : ((c.toNat : Int) == 60) = true := (unhidE YES) 60 h60
                have HEQ : escL false (s.data.toList.drop i) = (⟨#[38, 108, 116, 59]⟩ : ByteArray).data.toList ++ escL false (s.data.toList.drop (i + 1)) := by rw [esc_at1 (unhidE HD) hnn, h60]; rfl
                have HW : Hid (∀ w2 v', wr.grownBy w2 u5.ownBlock → w2.ownsRow w.heap.size 5 1 v' ((byteCells out).length + (⟨#[38, 108, 116, 59]⟩ : ByteArray).size) (byteCells out ++ strCells ⟨#[38, 108, 116, 59]⟩) → OutAt w w2 false s.data.toList (i + 1) v' (out ++ (⟨#[38, 108, 116, 59]⟩ : ByteArray).data.toList)) := hidE (fun w2 v' hg ho => (unhidE HO).word hg ho (by omega) (by decide) HEQ)
                have hroom : (byteCells out).length + (⟨#[38, 108, 116, 59]⟩ : ByteArray).size ≤ 140737488355328 := by have h1 : (⟨#[38, 108, 116, 59]⟩ : ByteArray).size = 4 := rfl; have h2 := unhidE HSN; omega
                clear HEQ
                go_wp2_with (at_builtin; refine Lib.wpList_append_own_string _ rfl _ _ 101 9 rfl w.heap.size 5 i0 Tryz.underlying101 Tryz.underlying9 hi hz0 hz1 hz2 u5 _ _ rfl (unhidE HO).own ⟨#[38, 108, 116, 59]⟩ rfl (by unfold maxLen; omega) hroom (unhidE HO).below.size ?_; intro v' w2 ho2 hg2 _; have HO2 := hidE ((unhidE HW) w2 v' hg2 ho2); clear ho2 hg2)
                go_roundg (gk - 1)
                case measure => omega
                case rel => exact ⟨i + 1, _, by go_num, by omega, unhidE HO2⟩
              · have q38 : ((c.toNat : Int) == 38) = false := (unhidE NE) 38 h38
                have q194 : ((c.toNat : Int) == 194) = false := (unhidE NE) 194 h194
                have q34 : ((c.toNat : Int) == 34) = false := (unhidE NE) 34 h34
                have q60 : ((c.toNat : Int) == 60) = true := (unhidE YES) 60 h60
                have h62 : c ≠ 62 := by rw [h60]; decide
                have q62 : ((c.toNat : Int) == 62) = false := (unhidE NE) 62 h62
                have HEQ : escL true (s.data.toList.drop i) = [c] ++ escL true (s.data.toList.drop (i + 1)) := by rw [esc_at1 (unhidE HD) hnn, h60]; rfl
                have HO1 := hidE ((unhidE HO).own.alloc (.cells #[.int .u8 (c.toNat : Int)] 5))
                have HW : Hid (∀ w2 v', (wr.alloc (.cells #[.int .u8 (c.toNat : Int)] 5)).grownBy w2 u5.ownBlock → w2.ownsRow w.heap.size 5 1 v' ((byteCells out).length + 1) (byteCells out ++ [.int .u8 (c.toNat : Int)]) → OutAt w w2 true s.data.toList (i + 1) v' (out ++ [c])) := hidE (fun w2 v' hg ho => (unhidE HO).one hg ho HEQ)
                have hroom : (byteCells out).length + 1 ≤ 140737488355328 := by have h2 := unhidE HSN; omega
                have hbs : w.heap.size ≤ (wr.alloc (.cells #[.int .u8 (c.toNat : Int)] 5)).heap.size := by have := (unhidE HO).below.size; simp; omega
                clear HEQ
                clear h60
                go_wp2_with (at_builtin; refine wpList_append_own _ rfl _ _ 101 rfl w.heap.size 5 i0 _ 1 1 Tryz.underlying101 hi hz0 hz1 hz2 rfl (by omega) u5 _ _ rfl (unhidE HO1) ⟨wr.heap.size, 0, none⟩ 1 1 [.int .u8 (c.toNat : Int)] rfl rfl (oneB_news wr (c.toNat : Int)) (by intro u hu; simp at hu; subst hu; rfl) (by unfold maxLen; omega) (by omega) hbs ?_; intro v' w2 ho2 hg2 _; have HO2 := hidE ((unhidE HW) w2 v' hg2 ho2); clear ho2 hg2)
                go_roundg (gk - 1)
                case measure => omega
                case rel => exact ⟨i + 1, _, by go_num, by omega, unhidE HO2⟩
            · by_cases h62 : c = 62
              · cases attr
                · have q38 : ((c.toNat : Int) == 38) = false := (unhidE NE) 38 h38
                  have q194 : ((c.toNat : Int) == 194) = false := (unhidE NE) 194 h194
                  have q34 : ((c.toNat : Int) == 34) = false := (unhidE NE) 34 h34
                  have q60 : ((c.toNat : Int) == 60) = false := (unhidE NE) 60 h60
                  have q62 : ((c.toNat : Int) == 62) = true := (unhidE YES) 62 h62
                  have HEQ : escL false (s.data.toList.drop i) = (⟨#[38, 103, 116, 59]⟩ : ByteArray).data.toList ++ escL false (s.data.toList.drop (i + 1)) := by rw [esc_at1 (unhidE HD) hnn, h62]; rfl
                  have HW : Hid (∀ w2 v', wr.grownBy w2 u5.ownBlock → w2.ownsRow w.heap.size 5 1 v' ((byteCells out).length + (⟨#[38, 103, 116, 59]⟩ : ByteArray).size) (byteCells out ++ strCells ⟨#[38, 103, 116, 59]⟩) → OutAt w w2 false s.data.toList (i + 1) v' (out ++ (⟨#[38, 103, 116, 59]⟩ : ByteArray).data.toList)) := hidE (fun w2 v' hg ho => (unhidE HO).word hg ho (by omega) (by decide) HEQ)
                  have hroom : (byteCells out).length + (⟨#[38, 103, 116, 59]⟩ : ByteArray).size ≤ 140737488355328 := by have h1 : (⟨#[38, 103, 116, 59]⟩ : ByteArray).size = 4 := rfl; have h2 := unhidE HSN; omega
                  clear HEQ
                  go_wp2_with (at_builtin; refine Lib.wpList_append_own_string _ rfl _ _ 101 9 rfl w.heap.size 5 i0 Tryz.underlying101 Tryz.underlying9 hi hz0 hz1 hz2 u5 _ _ rfl (unhidE HO).own ⟨#[38, 103, 116, 59]⟩ rfl (by unfold maxLen; omega) hroom (unhidE HO).below.size ?_; intro v' w2 ho2 hg2 _; have HO2 := hidE ((unhidE HW) w2 v' hg2 ho2); clear ho2 hg2)
                  go_roundg (gk - 1)
                  case measure => omega
                  case rel => exact ⟨i + 1, _, by go_num, by omega, unhidE HO2⟩
                · have q38 : ((c.toNat : Int) == 38) = false := (unhidE NE) 38 h38
                  have q194 : ((c.toNat : Int) == 194) = false := (unhidE NE) 194 h194
                  have q34 : ((c.toNat : Int) == 34) = false := (unhidE NE) 34 h34
                  have q60 : ((c.toNat : Int) == 60) = false := (unhidE NE) 60 h60
                  have q62 : ((c.toNat : Int) == 62) = true := (unhidE YES) 62 h62
                  have HEQ : escL true (s.data.toList.drop i) = [c] ++ escL true (s.data.toList.drop (i + 1)) := by rw [esc_at1 (unhidE HD) hnn, h62]; rfl
                  have HO1 := hidE ((unhidE HO).own.alloc (.cells #[.int .u8 (c.toNat : Int)] 5))
                  have HW : Hid (∀ w2 v', (wr.alloc (.cells #[.int .u8 (c.toNat : Int)] 5)).grownBy w2 u5.ownBlock → w2.ownsRow w.heap.size 5 1 v' ((byteCells out).length + 1) (byteCells out ++ [.int .u8 (c.toNat : Int)]) → OutAt w w2 true s.data.toList (i + 1) v' (out ++ [c])) := hidE (fun w2 v' hg ho => (unhidE HO).one hg ho HEQ)
                  have hroom : (byteCells out).length + 1 ≤ 140737488355328 := by have h2 := unhidE HSN; omega
                  have hbs : w.heap.size ≤ (wr.alloc (.cells #[.int .u8 (c.toNat : Int)] 5)).heap.size := by have := (unhidE HO).below.size; simp; omega
                  clear HEQ
                  clear h62
                  go_wp2_with (at_builtin; refine wpList_append_own _ rfl _ _ 101 rfl w.heap.size 5 i0 _ 1 1 Tryz.underlying101 hi hz0 hz1 hz2 rfl (by omega) u5 _ _ rfl (unhidE HO1) ⟨wr.heap.size, 0, none⟩ 1 1 [.int .u8 (c.toNat : Int)] rfl rfl (oneB_news wr (c.toNat : Int)) (by intro u hu; simp at hu; subst hu; rfl) (by unfold maxLen; omega) (by omega) hbs ?_; intro v' w2 ho2 hg2 _; have HO2 := hidE ((unhidE HW) w2 v' hg2 ho2); clear ho2 hg2)
                  go_roundg (gk - 1)
                  case measure => omega
                  case rel => exact ⟨i + 1, _, by go_num, by omega, unhidE HO2⟩
              · have q38 : ((c.toNat : Int) == 38) = false := (unhidE NE) 38 h38
                have q194 : ((c.toNat : Int) == 194) = false := (unhidE NE) 194 h194
                have q34 : ((c.toNat : Int) == 34) = false := (unhidE NE) 34 h34
                have q60 : ((c.toNat : Int) == 60) = false := (unhidE NE) 60 h60
                have q62 : ((c.toNat : Int) == 62) = false := (unhidE NE) 62 h62
                have HEQ : escL attr (s.data.toList.drop i) = [c] ++ escL attr (s.data.toList.drop (i + 1)) := by rw [esc_at1 (unhidE HD) hnn]; unfold oneL; rw [if_neg h38, if_neg h34, if_neg h60, if_neg h62]
                have HO1 := hidE ((unhidE HO).own.alloc (.cells #[.int .u8 (c.toNat : Int)] 5))
                have HW : Hid (∀ w2 v', (wr.alloc (.cells #[.int .u8 (c.toNat : Int)] 5)).grownBy w2 u5.ownBlock → w2.ownsRow w.heap.size 5 1 v' ((byteCells out).length + 1) (byteCells out ++ [.int .u8 (c.toNat : Int)]) → OutAt w w2 attr s.data.toList (i + 1) v' (out ++ [c])) := hidE (fun w2 v' hg ho => (unhidE HO).one hg ho HEQ)
                have hroom : (byteCells out).length + 1 ≤ 140737488355328 := by have h2 := unhidE HSN; omega
                have hbs : w.heap.size ≤ (wr.alloc (.cells #[.int .u8 (c.toNat : Int)] 5)).heap.size := by have := (unhidE HO).below.size; simp; omega
                clear HEQ
                go_wp2_with (at_builtin; refine wpList_append_own _ rfl _ _ 101 rfl w.heap.size 5 i0 _ 1 1 Tryz.underlying101 hi hz0 hz1 hz2 rfl (by omega) u5 _ _ rfl (unhidE HO1) ⟨wr.heap.size, 0, none⟩ 1 1 [.int .u8 (c.toNat : Int)] rfl rfl (oneB_news wr (c.toNat : Int)) (by intro u hu; simp at hu; subst hu; rfl) (by unfold maxLen; omega) (by omega) hbs ?_; intro v' w2 ho2 hg2 _; have HO2 := hidE ((unhidE HW) w2 v' hg2 ho2); clear ho2 hg2)
                go_roundg (gk - 1)
                case measure => omega
                case rel => exact ⟨i + 1, _, by go_num, by omega, unhidE HO2⟩
    · have hjz : ¬ (i : Int) < (s.size : Int) := by omega
      obtain rfl : i = s.size := by omega
      have hfin : escL attr s.data.toList = out := by
        have := (unhidE HO).eq
        rw [← len_data s, List.drop_length, escL, List.append_nil] at this
        exact this
      have hbk := conv_back (unhidE HO).own
      rw [← hfin] at hbk
      have HOB := hidE (unhidE HO).below
      clear hol hbl HO hfin
      go_wp2
      go_ret
      exact ⟨rfl, unhidE HOB⟩

end Go.Proofs.YtmnmaenmoaehlaaGreatDoor
