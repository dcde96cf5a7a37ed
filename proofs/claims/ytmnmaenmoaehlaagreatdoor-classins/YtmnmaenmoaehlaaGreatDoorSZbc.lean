/-
  The document's text of a node: one, but for elements. The document's text of a node: one, of an element.
-/
import Derived.Test.YtmnmaenmoaehlaaGreatDoorSZbb
namespace Go.Proofs.YtmnmaenmoaehlaaGreatDoor
open Go.RowKit Go.Lib

set_option maxHeartbeats 4000000 in
theorem one_comment {w : World} {base bR g cap : Nat} {rs : List OneR} (h : Rf w base bR g cap rs) (i p : Nat) (r rp : OneR) (hi : rs[i]? = some r) (hp : rs[p]? = some rp) (sc : Bool) (hk : r.o.kind = 3) (hd : r.o.data.size ≤ 100000000) :
    Calls Tryz.prog 74 #[.pointer (some ⟨bR, 0, none⟩), .int .i64 i, .int .i64 p, .bool sc] w fun e w' => (∃ s : ByteArray, e = .returned (.string s) ∧ s.data.toList = catL [comO, r.o.data, comS]) ∧ Below w.heap.size w w' := by
  obtain ⟨c0, c1, c2, c3, c4, c5, c6, c7, c8, c9⟩ := h.cells10 hi
  obtain ⟨p0, p1, p2, p3, p4, p5, p6, p7, p8, p9⟩ := h.cells10 hp
  obtain ⟨aa, ca, hav, _, _, _⟩ := h.attrs i r hi
  obtain ⟨ak, ck, hkv, _, _⟩ := h.kids i r hi
  obtain ⟨pa, qa, hpav, _, _, _⟩ := h.attrs p rp hp
  obtain ⟨pk, qk, hpkv, _, _⟩ := h.kids p rp hp
  rw [hav] at c3
  rw [hkv] at c9
  rw [hpav] at p3
  rw [hpkv] at p9
  have hR := h.cR
  have hgl := h.lt.2
  have hRl := h.lt.1
  have hm := h.most
  have hil : i < rs.length := (List.getElem?_eq_some_iff.1 hi).1
  have hpl : p < rs.length := (List.getElem?_eq_some_iff.1 hp).1
  have hiz : (i : Int) < (rs.length : Int) := by omega
  have hpz : (p : Int) < (rs.length : Int) := by omega
  have hmz : (rs.length : Int) ≤ 32768 := by omega
  have hdz : (r.o.data.size : Int) ≤ 100000000 := by omega
  rw [hk] at c0
  clear h hi hp hav hkv hpav hpkv hm hk
  go_enter Tryz.func74, Tryz.ntmps74
  go_wp2
  go_ret
  exact ⟨⟨_, rfl, by simp [ByteArray.data_append, catL, comO, comS]⟩, below_new w _⟩

set_option maxHeartbeats 4000000 in
theorem one_doctype {w : World} {base bR g cap : Nat} {rs : List OneR} (h : Rf w base bR g cap rs) (i p : Nat) (r rp : OneR) (hi : rs[i]? = some r) (hp : rs[p]? = some rp) (sc : Bool) (hk : r.o.kind = 4) (hd : r.o.name.size ≤ 100000000) :
    Calls Tryz.prog 74 #[.pointer (some ⟨bR, 0, none⟩), .int .i64 i, .int .i64 p, .bool sc] w fun e w' => (∃ s : ByteArray, e = .returned (.string s) ∧ s.data.toList = catL [docO, r.o.name, gtB]) ∧ Below w.heap.size w w' := by
  obtain ⟨c0, c1, c2, c3, c4, c5, c6, c7, c8, c9⟩ := h.cells10 hi
  obtain ⟨p0, p1, p2, p3, p4, p5, p6, p7, p8, p9⟩ := h.cells10 hp
  obtain ⟨aa, ca, hav, _, _, _⟩ := h.attrs i r hi
  obtain ⟨ak, ck, hkv, _, _⟩ := h.kids i r hi
  obtain ⟨pa, qa, hpav, _, _, _⟩ := h.attrs p rp hp
  obtain ⟨pk, qk, hpkv, _, _⟩ := h.kids p rp hp
  rw [hav] at c3
  rw [hkv] at c9
  rw [hpav] at p3
  rw [hpkv] at p9
  have hR := h.cR
  have hgl := h.lt.2
  have hRl := h.lt.1
  have hm := h.most
  have hil : i < rs.length := (List.getElem?_eq_some_iff.1 hi).1
  have hpl : p < rs.length := (List.getElem?_eq_some_iff.1 hp).1
  have hiz : (i : Int) < (rs.length : Int) := by omega
  have hpz : (p : Int) < (rs.length : Int) := by omega
  have hmz : (rs.length : Int) ≤ 32768 := by omega
  have hdz : (r.o.name.size : Int) ≤ 100000000 := by omega
  rw [hk] at c0
  clear h hi hp hav hkv hpav hpkv hm hk
  go_enter Tryz.func74, Tryz.ntmps74
  go_wp2
  go_ret
  exact ⟨⟨_, rfl, by simp [ByteArray.data_append, catL, docO, gtB]⟩, below_new w _⟩

set_option maxHeartbeats 4000000 in
theorem one_text {w : World} {base bR g cap : Nat} {rs : List OneR} (h : Rf w base bR g cap rs) (i p : Nat) (r rp : OneR) (hi : rs[i]? = some r) (hp : rs[p]? = some rp) (sc : Bool) (hk : r.o.kind = 2) (hd : r.o.data.size ≤ 1048576) :
    Calls Tryz.prog 74 #[.pointer (some ⟨bR, 0, none⟩), .int .i64 i, .int .i64 p, .bool sc] w fun e w' => (∃ s : ByteArray, e = .returned (.string s) ∧ s.data.toList = (if htmlM rp.o.kind rp.o.space && plainM rp.o.name sc then r.o.data.data.toList else escL false r.o.data.data.toList)) ∧ Below w.heap.size w w' := by
  obtain ⟨c0, c1, c2, c3, c4, c5, c6, c7, c8, c9⟩ := h.cells10 hi
  obtain ⟨p0, p1, p2, p3, p4, p5, p6, p7, p8, p9⟩ := h.cells10 hp
  obtain ⟨aa, ca, hav, _, _, _⟩ := h.attrs i r hi
  obtain ⟨ak, ck, hkv, _, _⟩ := h.kids i r hi
  obtain ⟨pa, qa, hpav, _, _, _⟩ := h.attrs p rp hp
  obtain ⟨pk, qk, hpkv, _, _⟩ := h.kids p rp hp
  rw [hav] at c3
  rw [hkv] at c9
  rw [hpav] at p3
  rw [hpkv] at p9
  have hR := h.cR
  have hgl := h.lt.2
  have hRl := h.lt.1
  have hm := h.most
  have hil : i < rs.length := (List.getElem?_eq_some_iff.1 hi).1
  have hpl : p < rs.length := (List.getElem?_eq_some_iff.1 hp).1
  have hiz : (i : Int) < (rs.length : Int) := by omega
  have hpz : (p : Int) < (rs.length : Int) := by omega
  have hmz : (rs.length : Int) ≤ 32768 := by omega
  have HE := hidE (fun W => rescape_any r.o.data false W (by omega))
  have HED : Hid ((escS false r.o.data).data.toList = escL false r.o.data.data.toList) := hidE (by unfold escS; simp)
  generalize escS false r.o.data = es at HE HED
  have HP := hidE (fun W => rplain_any rp.o.name sc W)
  have HB0 := hidE (((Below.refl _ w).alloc (Nat.le_refl _) (.cells #[.int .i64 r.o.kind, .int .i64 r.o.space, .string r.o.name, .slice aa r.o.attrs.length ca, .string r.o.data, .string r.o.system, .int .i64 r.o.inner, .int .i64 r.o.host, .int .i64 r.o.up, .slice ak r.o.kids.length ck] 58)).alloc (by simp) (.cells #[.int .i64 rp.o.kind, .int .i64 rp.o.space, .string rp.o.name, .slice pa rp.o.attrs.length qa, .string rp.o.data, .string rp.o.system, .int .i64 rp.o.inner, .int .i64 rp.o.host, .int .i64 rp.o.up, .slice pk rp.o.kids.length qk] 58))
  rw [hk] at c0 HB0
  clear h hi hp hav hkv hpav hpkv hm hk
  unfold htmlM
  cases h1 : (rp.o.kind == 1) with
  | false =>
    go_enter Tryz.func74, Tryz.ntmps74
    go_wp2_with (go_at_call 96; refine ((unhidE HE) _).mono ?_; rintro e w3 ⟨rfl, hb3⟩; have HB3 := hidE ((unhidE HB0).trans (hb3.mono (unhidE HB0).size)); clear hb3)
    go_ret
    exact ⟨⟨_, rfl, unhidE HED⟩, unhidE HB3⟩
  | true =>
    cases h2 : (rp.o.space == 0) with
    | false =>
      go_enter Tryz.func74, Tryz.ntmps74
      go_wp2_with (go_at_call 96; refine ((unhidE HE) _).mono ?_; rintro e w3 ⟨rfl, hb3⟩; have HB3 := hidE ((unhidE HB0).trans (hb3.mono (unhidE HB0).size)); clear hb3)
      go_ret
      exact ⟨⟨_, rfl, unhidE HED⟩, unhidE HB3⟩
    | true =>
      cases h3 : plainM rp.o.name sc with
      | true =>
        rw [h3] at HP
        go_enter Tryz.func74, Tryz.ntmps74
        go_wp2_with (go_at_call 95; refine ((unhidE HP) _).mono ?_; rintro e w2 ⟨rfl, rfl⟩)
        go_ret
        exact ⟨⟨_, rfl, rfl⟩, unhidE HB0⟩
      | false =>
        rw [h3] at HP
        go_enter Tryz.func74, Tryz.ntmps74
        go_wp2_with (first
          | (go_at_call 95; refine ((unhidE HP) _).mono ?_; rintro e w2 ⟨rfl, rfl⟩)
          | (go_at_call 96; refine ((unhidE HE) _).mono ?_; rintro e w3 ⟨rfl, hb3⟩; have HB3 := hidE ((unhidE HB0).trans (hb3.mono (unhidE HB0).size)); clear hb3))
        go_ret
        exact ⟨⟨_, rfl, unhidE HED⟩, unhidE HB3⟩
end Go.Proofs.YtmnmaenmoaehlaaGreatDoor

namespace Go.Proofs.YtmnmaenmoaehlaaGreatDoor
open Go.RowKit Go.Lib

/-- The texts of a node are short. -/
structure ShortO (o : OneM) : Prop where
  name : o.name.size ≤ 1048576
  data : o.data.size ≤ 1048576
  attrs : ∀ x ∈ o.attrs, x.name.size ≤ 1048576 ∧ x.val.size ≤ 1048576

theorem below_drx {B : Nat} {a w' : World} (h : Below B a w') : Below B a w'.drew := ⟨h.os, h.tape, h.output, h.size, h.block⟩
theorem addS (x y : ByteArray) (h : x.size + y.size ≤ 9000000000000000000) (W : World) : (binOp .add 9 (.string x) (.string y)).run Tryz.prog W = .ok (.string (x ++ y)) W := by
  have e : IntKind.i64.max = 9223372036854775807 := rfl
  simp only [binOp]
  simp [go_sem, Op.stringOp, e]
  omega
def elemH (o : OneM) (j : Nat) : List UInt8 := [60] ++ o.name.data.toList ++ attrsL (o.attrs.take j)
theorem elemH_len (o : OneM) (h : ShortO o) (hl : o.attrs.length ≤ 1024) (j : Nat) : (elemH o j).length ≤ 10000000000 := by
  have h1 := attrsL_len (o.attrs.take j)
  have h2 := h.name
  have h3 : ∀ l : List AttrM, (∀ x ∈ l, x.name.size ≤ 1048576 ∧ x.val.size ≤ 1048576) → attrsN l ≤ l.length * 8000000 := by
    intro l
    induction l with
    | nil => intro _; simp [attrsN]
    | cons x l ih =>
      intro hx
      have i1 := ih (fun y hy => hx y (by simp [hy]))
      have i2 := hx x (by simp)
      unfold attrsN at *
      simp only [List.foldr_cons, List.length_cons]
      omega
  have h4 := h3 (o.attrs.take j) (fun x hx => h.attrs x (List.mem_of_mem_take hx))
  have h5 : (o.attrs.take j).length ≤ 1024 := by rw [List.length_take]; omega
  unfold elemH
  simp only [List.length_append, len_data, List.length_cons, List.length_nil]
  have h6 : (o.attrs.take j).length * 8000000 ≤ 1024 * 8000000 := Nat.mul_le_mul_right _ h5
  omega

set_option maxHeartbeats 8000000 in
set_option maxRecDepth 10000 in
theorem one_elem {w : World} {base bR g cap : Nat} {rs : List OneR} (h : Rf w base bR g cap rs) (i : Nat) (p : Int) (r : OneR) (hi : rs[i]? = some r) (sc : Bool) (hk : r.o.kind = 1) (hsh : ShortO r.o) (out : List UInt8) (ho : out.length ≤ 100000000000000)
    (hBl : ∀ W, Below w.heap.size w W → Calls Tryz.prog 49 #[.pointer (some ⟨bR, 0, none⟩), .int .i64 i, .bool sc] W fun e w' => (∃ s : ByteArray, e = .returned (.string s) ∧ s.data.toList = out) ∧ Below W.heap.size W w') :
    Calls Tryz.prog 74 #[.pointer (some ⟨bR, 0, none⟩), .int .i64 i, .int .i64 p, .bool sc] w fun e w' => (∃ s : ByteArray, e = .returned (.string s) ∧ s.data.toList = elemT out r.o) ∧ Below w.heap.size w w' := by
  obtain ⟨c0, c1, c2, c3, c4, c5, c6, c7, c8, c9⟩ := h.cells10 hi
  obtain ⟨aa, ca, hav, hain, hal, _⟩ := h.attrs i r hi
  obtain ⟨ak, ck, hkv, _, _⟩ := h.kids i r hi
  rw [hav] at c3
  rw [hkv] at c9
  have hR := h.cR
  have hgl := h.lt.2
  have hRl := h.lt.1
  have hm := h.most
  have hil : i < rs.length := (List.getElem?_eq_some_iff.1 hi).1
  have hiz : (i : Int) < (rs.length : Int) := by omega
  have hmz : (rs.length : Int) ≤ 32768 := by omega
  have HBL := hidE hBl
  have HSH := hidE hsh
  have HAIN := hidE hain
  have hln := hal
  have halz : (r.o.attrs.length : Int) ≤ 1024 := by omega
  have hnz : (r.o.name.size : Int) ≤ 1048576 := by have := hsh.name; omega
  have HV := hidE (fun W => rvoid_any r.o.name W)
  have hkO := hk
  rw [hk] at c0
  obtain ⟨w1, hw1⟩ : ∃ w1, w.alloc (.cells #[.int .i64 1, .int .i64 r.o.space, .string r.o.name, .slice aa r.o.attrs.length ca, .string r.o.data, .string r.o.system, .int .i64 r.o.inner, .int .i64 r.o.host, .int .i64 r.o.up, .slice ak r.o.kids.length ck] 58) = w1 := ⟨_, rfl⟩
  have hb1 : Below w.heap.size w w1 := by rw [← hw1]; exact below_new w _
  have hk1 : w1.heap[w.heap.size]? = some (.cells #[.int .i64 1, .int .i64 r.o.space, .string r.o.name, .slice aa r.o.attrs.length ca, .string r.o.data, .string r.o.system, .int .i64 r.o.inner, .int .i64 r.o.host, .int .i64 r.o.up, .slice ak r.o.kids.length ck] 58 (0, 0)) := by rw [← hw1]; exact heap_alloc_new w _
  have HW1 : Hid (_ = w1) := hidE hw1
  have HB1 := hidE hb1
  have HK1 := hidE hk1
  clear h hi hav hkv hm hk hBl hsh hain hal hb1 hk1 hw1
  go_enter Tryz.func74, Tryz.ntmps74
  go_wp2
  rw [unhidE HW1]
  go_loopg [11, 12] r.o.attrs.length (fun k s11 s12 wx => ∃ (j : Nat) (sb : ByteArray), s12 = .int .i64 j ∧ s11 = .string sb ∧ sb.data.toList = elemH r.o j ∧ j + k = r.o.attrs.length ∧ Below w1.heap.size w1 wx)
  case atStart => exact ⟨0, _, rfl, rfl, by simp [ByteArray.data_append, elemH, attrsL], by omega, Below.refl _ _⟩
  case round =>
    obtain ⟨j, sb, rfl, rfl, hsb, hjk, hbx⟩ := hrel
    have hsz : sb.size ≤ 10000000000 := by rw [← len_data, hsb]; exact elemH_len r.o (unhidE HSH) hln j
    have hsz2 : (sb.size : Int) ≤ 10000000000 := by omega
    have hkx := (hbx.block _ (lt_of_block (unhidE HK1))).trans (unhidE HK1)
    have e3 := cell_row _ _ 3 _ _ _ hkx
    by_cases hj : j < r.o.attrs.length
    · have hjz : (j : Int) < (r.o.attrs.length : Int) := by omega
      obtain ⟨x, hx⟩ : ∃ x, r.o.attrs[j]? = some x := ⟨_, List.getElem?_eq_getElem hj⟩
      obtain ⟨hxn, hxv⟩ := (unhidE HSH).attrs x (List.mem_of_getElem? hx)
      obtain ⟨b, off, rfl, _⟩ := ((unhidE HAIN).cells j x hx)
      have HSS : Hid (∀ W', Below w1.heap.size w1 W' → (W'.cell? ⟨w.heap.size, 3, none⟩ = some (.slice (some ⟨b, off, none⟩) r.o.attrs.length ca) ∧ W'.cell? ⟨b, off + j * 4, none⟩ = some (.int .i64 x.space) ∧ W'.cell? ⟨b, off + j * 4 + 1, none⟩ = some (.string x.pre) ∧ W'.cell? ⟨b, off + j * 4 + 2, none⟩ = some (.string x.name) ∧ W'.cell? ⟨b, off + j * 4 + 3, none⟩ = some (.string x.val))) := hidE (fun W' hb' => by
        have hk' := (hb'.block _ (lt_of_block (unhidE HK1))).trans (unhidE HK1)
        obtain ⟨b', off', e', c0', c1', c2', c3'⟩ := ((((unhidE HAIN).below (unhidE HB1))).below hb').cells j x hx
        cases e'
        exact ⟨cell_row _ _ 3 _ _ _ hk', c0', c1', c2', c3'⟩)
      have HSH2 := hidE (fun W => shown_any x (by omega) W)
      have HES := hidE (fun W => rescape_any x.val true W (by omega))
      have hshd : (shownB x).data.toList = (aheadB x).data.toList ++ x.name.data.toList := by unfold shownB; simp
      have hahl := ahead_len x
      have hshz : (shownB x).size ≤ 2000000 := by rw [← len_data, hshd, List.length_append, len_data x.name]; omega
      have hesd : (escS true x.val).data.toList = escL true x.val.data.toList := by unfold escS; simp
      have hel := esc_len true _ x.val.data.toList (Nat.le_refl _)
      rw [len_data] at hel
      have hesz : (escS true x.val).size ≤ 10000000 := by rw [← len_data, hesd]; omega
      generalize shownB x = sh at HSH2 hshd hshz
      generalize escS true x.val = es at HES hesd hesz
      have hshz2 : (sh.size : Int) ≤ 2000000 := by omega
      have hesz2 : (es.size : Int) ≤ 10000000 := by omega
      have HBX := hidE hbx
      have HD : Hid ((sb ++ ⟨#[32]⟩ ++ sh ++ ⟨#[61, 34]⟩ ++ es ++ ⟨#[34]⟩ : ByteArray).data.toList = elemH r.o (j + 1)) := hidE (by
        simp only [ByteArray.data_append, Array.toList_append, hsb, hshd, hesd]
        unfold elemH
        rw [attrsL_take _ _ _ hx]
        simp [attrL, catL])
      have z1 : (⟨#[32]⟩ : ByteArray).size = 1 := rfl
      have z2 : (⟨#[61, 34]⟩ : ByteArray).size = 2 := rfl
      have z3 : (⟨#[34]⟩ : ByteArray).size = 1 := rfl
      have a1 := fun W => addS sb ⟨#[32]⟩ (by omega) W
      have a2 := fun W => addS (sb ++ ⟨#[32]⟩) sh (by simp only [ByteArray.size_append]; omega) W
      have a3 := fun W => addS (sb ++ ⟨#[32]⟩ ++ sh) ⟨#[61, 34]⟩ (by simp only [ByteArray.size_append]; omega) W
      have a4 := fun W => addS (sb ++ ⟨#[32]⟩ ++ sh ++ ⟨#[61, 34]⟩) es (by simp only [ByteArray.size_append]; omega) W
      have a5 := fun W => addS (sb ++ ⟨#[32]⟩ ++ sh ++ ⟨#[61, 34]⟩ ++ es) ⟨#[34]⟩ (by simp only [ByteArray.size_append]; omega) W
      have n1 : ¬ 9223372036854775807 < sb.size + 1 := by omega
      have n2 : ¬ 9223372036854775807 < sb.size + 1 + sh.size := by omega
      have n3 : ¬ 9223372036854775807 < sb.size + 1 + sh.size + 2 := by omega
      have n4 : ¬ 9223372036854775807 < sb.size + 1 + sh.size + 2 + es.size := by omega
      have n5 : ¬ 9223372036854775807 < sb.size + 1 + sh.size + 2 + es.size + 1 := by omega
      clear hsb hshd hesd hel hahl hkx hbx hx hxn hxv z1 z2 z3 hshz hesz hsz a1 a2 a3 a4 a5
      go_wp2
      first
      | go_region_held3 (fun W' => W'.cell? ⟨w.heap.size, 3, none⟩ = some (.slice (some ⟨b, off, none⟩) r.o.attrs.length ca) ∧ W'.cell? ⟨b, off + j * 4, none⟩ = some (.int .i64 x.space) ∧ W'.cell? ⟨b, off + j * 4 + 1, none⟩ = some (.string x.pre) ∧ W'.cell? ⟨b, off + j * 4 + 2, none⟩ = some (.string x.name) ∧ W'.cell? ⟨b, off + j * 4 + 3, none⟩ = some (.string x.val)) (first | exact (unhidE HSS) _ (unhidE HB6) | exact (unhidE HSS) _ (below_drx (unhidE HB6)) | exact (unhidE HSS) _ (below_drx (below_drx (unhidE HB6))) | exact (unhidE HSS) _ (below_drx (below_drx (below_drx (unhidE HB6)))) | exact (unhidE HSS) _ (unhidE HB5) | exact (unhidE HSS) _ (below_drx (unhidE HB5)) | exact (unhidE HSS) _ (below_drx (below_drx (unhidE HB5))) | exact (unhidE HSS) _ (below_drx (below_drx (below_drx (unhidE HB5)))) | exact (unhidE HSS) _ (below_drx (below_drx (below_drx (below_drx (unhidE HB5))))) | exact (unhidE HSS) _ (unhidE HBX) | exact (unhidE HSS) _ (below_drx (unhidE HBX)) | exact (unhidE HSS) _ (below_drx (below_drx (unhidE HBX))) | exact (unhidE HSS) _ (below_drx (below_drx (below_drx (unhidE HBX)))) | exact (unhidE HSS) _ (below_drx (below_drx (below_drx (below_drx (unhidE HBX))))) | exact (unhidE HSS) _ (below_drx (below_drx (below_drx (below_drx (below_drx (unhidE HBX))))))) (first
            | (go_at_call 97; refine ((unhidE HSH2) _).mono ?_; rintro e w5 ⟨rfl, hb5⟩; have HB5 : Hid (Below w1.heap.size w1 w5) := hidE (by first | exact (unhidE HBX).trans ((below_dr hb5).mono (unhidE HBX).size) | exact (unhidE HBX).trans (hb5.mono (unhidE HBX).size) | exact (unhidE HBX).trans ((below_dr (below_dr hb5)).mono (unhidE HBX).size) | exact (unhidE HBX).trans ((below_dr (below_dr (below_dr hb5))).mono (unhidE HBX).size) | exact (unhidE HBX).trans ((below_dr (below_dr (below_dr (below_dr hb5)))).mono (unhidE HBX).size)); clear hb5)
            | (go_at_call 96; refine ((unhidE HES) _).mono ?_; rintro e w6 ⟨rfl, hb6⟩; have HB6 : Hid (Below w1.heap.size w1 w6) := hidE (by first | exact (unhidE HB5).trans (hb6.mono (unhidE HB5).size) | exact (unhidE HB5).trans ((below_dr hb6).mono (unhidE HB5).size) | exact (unhidE HB5).trans ((below_dr (below_dr hb6)).mono (unhidE HB5).size) | exact (unhidE HB5).trans ((below_dr (below_dr (below_dr hb6))).mono (unhidE HB5).size)); clear hb6))
      | fail
      all_goals go_wp2
      all_goals go_roundg (gk - 1)
      all_goals (first | (case measure => omega) | skip)
      all_goals (first | exact ⟨j + 1, _, by go_num, rfl, unhidE HD, by omega, unhidE HB6⟩ | omega)
    · have hjz : ¬ (j : Int) < (r.o.attrs.length : Int) := by omega
      obtain rfl : j = r.o.attrs.length := by omega
      have e1 := cell_row _ _ 1 _ _ _ hkx
      have e2 := cell_row _ _ 2 _ _ _ hkx
      have hsb2 : sb.data.toList = [60] ++ r.o.name.data.toList ++ attrsL r.o.attrs := by rw [hsb]; unfold elemH; rw [List.take_length]
      have hbw : Below w.heap.size w wr := (unhidE HB1).trans (hbx.mono (unhidE HB1).size)
      have HSS : Hid (∀ W', Below w1.heap.size w1 W' → W'.cell? ⟨w.heap.size, 2, none⟩ = some (.string r.o.name)) := hidE (fun W' hb' => cell_row _ _ 2 _ _ _ ((hb'.block _ (lt_of_block (unhidE HK1))).trans (unhidE HK1)))
      have HBX := hidE hbx
      have HBW := hidE hbw
      have HSB := hidE hsb2
      have n1 : ¬ 9223372036854775807 < sb.size + 1 := by omega
      have hnn := (unhidE HSH).name
      cases hv : (r.o.space == 0 && hasN voids r.o.name) with
      | true =>
        have hv' := hv
        rw [Bool.and_eq_true] at hv
        obtain ⟨hv1, hv2⟩ := hv
        rw [hv2] at HV
        clear hsb hsb2 hkx hbx hbw
        go_wp2_with (go_at_call 73; refine ((unhidE HV) _).mono ?_; rintro e w2 ⟨rfl, rfl⟩)
        go_ret
        refine ⟨⟨_, rfl, ?_⟩, unhidE HBW⟩
        unfold elemT voidO htmlM tagL
        rw [hkO, show ((1 : Int) == 1) = true from rfl, Bool.true_and, hv']
        simp [ByteArray.data_append, unhidE HSB]
      | false =>
        have HBO := hidE (fun W (hW : Below w1.heap.size w1 W) => (unhidE HBL) W ((unhidE HB1).trans (hW.mono (unhidE HB1).size)))
        have HF : Hid (∀ so : ByteArray, so.data.toList = out → (sb ++ ⟨#[62]⟩ ++ so ++ ⟨#[60, 47]⟩ ++ r.o.name ++ ⟨#[62]⟩ : ByteArray).data.toList = elemT out r.o) := hidE (fun so hso => by
          unfold elemT voidO htmlM tagL
          rw [hkO, show ((1 : Int) == 1) = true from rfl, Bool.true_and, hv]
          simp [ByteArray.data_append, hsb2, hso, catL, endB, gtB])
        have HNS : Hid (∀ so : ByteArray, so.data.toList = out → (¬ 9223372036854775807 < sb.size + 1 + so.size) ∧ (¬ 9223372036854775807 < sb.size + 1 + so.size + 2) ∧ (¬ 9223372036854775807 < sb.size + 1 + so.size + 2 + r.o.name.size) ∧ (¬ 9223372036854775807 < sb.size + 1 + so.size + 2 + r.o.name.size + 1)) := hidE (fun so hso => by
          have : so.size ≤ 100000000000000 := by rw [← len_data, hso]; exact ho
          refine ⟨by omega, by omega, by omega, by omega⟩)
        clear hsb hsb2 hkx hbx hbw
        cases hv1 : (r.o.space == 0) with
        | false =>
          clear hv
          go_wp2_with (go_at_call 73; refine ((unhidE HV) _).mono ?_; rintro e w2 ⟨rfl, rfl⟩)
          go_region_held3 (fun W' => W'.cell? ⟨w.heap.size, 2, none⟩ = some (.string r.o.name)) (first | exact (unhidE HSS) _ (unhidE HB6) | exact (unhidE HSS) _ (below_drx (unhidE HB6)) | exact (unhidE HSS) _ (below_drx (below_drx (unhidE HB6))) | exact (unhidE HSS) _ (unhidE HBX) | exact (unhidE HSS) _ (below_drx (unhidE HBX)) | exact (unhidE HSS) _ (below_drx (below_drx (unhidE HBX))) | exact (unhidE HSS) _ (below_drx (below_drx (below_drx (unhidE HBX))))) (first
            | (go_at_call 49; first | refine ((unhidE HBO) _ (below_drx (unhidE HBX))).mono ?_ | refine ((unhidE HBO) _ (unhidE HBX)).mono ?_ | refine ((unhidE HBO) _ (below_drx (below_drx (unhidE HBX)))).mono ?_
               rintro e w6 ⟨⟨so, rfl, hso⟩, hb6⟩
               obtain ⟨m1, m2, m3, m4⟩ := (unhidE HNS) so hso
               have HSO := hidE ((unhidE HF) so hso)
               have HB6 : Hid (Below w1.heap.size w1 w6) := hidE (by first | exact (unhidE HBX).trans ((below_dr hb6).mono (unhidE HBX).size) | exact (unhidE HBX).trans (hb6.mono (unhidE HBX).size) | exact (unhidE HBX).trans ((below_dr (below_dr hb6)).mono (unhidE HBX).size))
               clear hb6 hso))
          all_goals go_wp2
          all_goals go_ret
          all_goals exact ⟨⟨_, rfl, unhidE HSO⟩, (unhidE HB1).trans ((unhidE HB6).mono (unhidE HB1).size)⟩
        | true =>
          have hv2 : hasN voids r.o.name = false := by rw [hv1] at hv; simpa using hv
          rw [hv2] at HV
          clear hv
          go_wp2_with (go_at_call 73; refine ((unhidE HV) _).mono ?_; rintro e w2 ⟨rfl, rfl⟩)
          go_region_held3 (fun W' => W'.cell? ⟨w.heap.size, 2, none⟩ = some (.string r.o.name)) (first | exact (unhidE HSS) _ (unhidE HB6) | exact (unhidE HSS) _ (below_drx (unhidE HB6)) | exact (unhidE HSS) _ (below_drx (below_drx (unhidE HB6))) | exact (unhidE HSS) _ (unhidE HBX) | exact (unhidE HSS) _ (below_drx (unhidE HBX)) | exact (unhidE HSS) _ (below_drx (below_drx (unhidE HBX))) | exact (unhidE HSS) _ (below_drx (below_drx (below_drx (unhidE HBX))))) (first
            | (go_at_call 49; first | refine ((unhidE HBO) _ (below_drx (unhidE HBX))).mono ?_ | refine ((unhidE HBO) _ (unhidE HBX)).mono ?_ | refine ((unhidE HBO) _ (below_drx (below_drx (unhidE HBX)))).mono ?_
               rintro e w6 ⟨⟨so, rfl, hso⟩, hb6⟩
               obtain ⟨m1, m2, m3, m4⟩ := (unhidE HNS) so hso
               have HSO := hidE ((unhidE HF) so hso)
               have HB6 : Hid (Below w1.heap.size w1 w6) := hidE (by first | exact (unhidE HBX).trans ((below_dr hb6).mono (unhidE HBX).size) | exact (unhidE HBX).trans (hb6.mono (unhidE HBX).size) | exact (unhidE HBX).trans ((below_dr (below_dr hb6)).mono (unhidE HBX).size))
               clear hb6 hso))
          all_goals go_wp2
          all_goals go_ret
          all_goals exact ⟨⟨_, rfl, unhidE HSO⟩, (unhidE HB1).trans ((unhidE HB6).mono (unhidE HB1).size)⟩
end Go.Proofs.YtmnmaenmoaehlaaGreatDoor
