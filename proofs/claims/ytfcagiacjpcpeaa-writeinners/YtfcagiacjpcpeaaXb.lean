/-
  The document's text of a node: one, but for elements.
-/
import Derived.Test.YtfcagiacjpcpeaaXa
namespace Go.Proofs.Ytfcagiacjpcpeaa
open Go.RowKit Go.Lib

set_option maxHeartbeats 4000000 in
theorem one_comment {w : World} {base bR g cap : Nat} {rs : List OneR} (h : Rf w base bR g cap rs) (i p : Nat) (r rp : OneR) (hi : rs[i]? = some r) (hp : rs[p]? = some rp) (sc : Bool) (hk : r.o.kind = 3) (hd : r.o.data.size ≤ 100000000) :
    Calls Try.prog 59 #[.pointer (some ⟨bR, 0, none⟩), .int .i64 i, .int .i64 p, .bool sc] w fun e w' => (∃ s : ByteArray, e = .returned (.string s) ∧ s.data.toList = catL [comO, r.o.data, comS]) ∧ Below w.heap.size w w' := by
  obtain ⟨c0, c1, c2, c3, c4, c5, c6, c7, c8, c9⟩ := h.cells10 hi
  obtain ⟨p0, p1, p2, p3, p4, p5, p6, p7, p8, p9⟩ := h.cells10 hp
  obtain ⟨aa, ca, hav, _, _, _⟩ := h.attrs i r hi
  obtain ⟨ak, ck, hkv, _, _⟩ := h.kids i r hi
  obtain ⟨pa, qa, hpav, _, _, _⟩ := h.attrs p rp hp
  obtain ⟨pk, qk, hpkv, _, _⟩ := h.kids p rp hp
  rw [hav] at c3
  rw [hkv] at c9
  rw [hpav] at p3
  rw [hpkv] at p9
  have hR := h.cR
  have hgl := h.lt.2
  have hRl := h.lt.1
  have hm := h.most
  have hil : i < rs.length := (List.getElem?_eq_some_iff.1 hi).1
  have hpl : p < rs.length := (List.getElem?_eq_some_iff.1 hp).1
  have hiz : (i : Int) < (rs.length : Int) := by omega
  have hpz : (p : Int) < (rs.length : Int) := by omega
  have hmz : (rs.length : Int) ≤ 32768 := by omega
  have hdz : (r.o.data.size : Int) ≤ 100000000 := by omega
  rw [hk] at c0
  clear h hi hp hav hkv hpav hpkv hm hk
  go_enter Try.func59, Try.ntmps59
  go_wp2
  go_ret
  exact ⟨⟨_, rfl, by simp [ByteArray.data_append, catL, comO, comS]⟩, below_new w _⟩

set_option maxHeartbeats 4000000 in
theorem one_doctype {w : World} {base bR g cap : Nat} {rs : List OneR} (h : Rf w base bR g cap rs) (i p : Nat) (r rp : OneR) (hi : rs[i]? = some r) (hp : rs[p]? = some rp) (sc : Bool) (hk : r.o.kind = 4) (hd : r.o.name.size ≤ 100000000) :
    Calls Try.prog 59 #[.pointer (some ⟨bR, 0, none⟩), .int .i64 i, .int .i64 p, .bool sc] w fun e w' => (∃ s : ByteArray, e = .returned (.string s) ∧ s.data.toList = catL [docO, r.o.name, gtB]) ∧ Below w.heap.size w w' := by
  obtain ⟨c0, c1, c2, c3, c4, c5, c6, c7, c8, c9⟩ := h.cells10 hi
  obtain ⟨p0, p1, p2, p3, p4, p5, p6, p7, p8, p9⟩ := h.cells10 hp
  obtain ⟨aa, ca, hav, _, _, _⟩ := h.attrs i r hi
  obtain ⟨ak, ck, hkv, _, _⟩ := h.kids i r hi
  obtain ⟨pa, qa, hpav, _, _, _⟩ := h.attrs p rp hp
  obtain ⟨pk, qk, hpkv, _, _⟩ := h.kids p rp hp
  rw [hav] at c3
  rw [hkv] at c9
  rw [hpav] at p3
  rw [hpkv] at p9
  have hR := h.cR
  have hgl := h.lt.2
  have hRl := h.lt.1
  have hm := h.most
  have hil : i < rs.length := (List.getElem?_eq_some_iff.1 hi).1
  have hpl : p < rs.length := (List.getElem?_eq_some_iff.1 hp).1
  have hiz : (i : Int) < (rs.length : Int) := by omega
  have hpz : (p : Int) < (rs.length : Int) := by omega
  have hmz : (rs.length : Int) ≤ 32768 := by omega
  have hdz : (r.o.name.size : Int) ≤ 100000000 := by omega
  rw [hk] at c0
  clear h hi hp hav hkv hpav hpkv hm hk
  go_enter Try.func59, Try.ntmps59
  go_wp2
  go_ret
  exact ⟨⟨_, rfl, by simp [ByteArray.data_append, catL, docO, gtB]⟩, below_new w _⟩

set_option maxHeartbeats 4000000 in
theorem one_text {w : World} {base bR g cap : Nat} {rs : List OneR} (h : Rf w base bR g cap rs) (i p : Nat) (r rp : OneR) (hi : rs[i]? = some r) (hp : rs[p]? = some rp) (sc : Bool) (hk : r.o.kind = 2) (hd : r.o.data.size ≤ 1048576) :
    Calls Try.prog 59 #[.pointer (some ⟨bR, 0, none⟩), .int .i64 i, .int .i64 p, .bool sc] w fun e w' => (∃ s : ByteArray, e = .returned (.string s) ∧ s.data.toList = (if htmlM rp.o.kind rp.o.space && plainM rp.o.name sc then r.o.data.data.toList else escL false r.o.data.data.toList)) ∧ Below w.heap.size w w' := by
  obtain ⟨c0, c1, c2, c3, c4, c5, c6, c7, c8, c9⟩ := h.cells10 hi
  obtain ⟨p0, p1, p2, p3, p4, p5, p6, p7, p8, p9⟩ := h.cells10 hp
  obtain ⟨aa, ca, hav, _, _, _⟩ := h.attrs i r hi
  obtain ⟨ak, ck, hkv, _, _⟩ := h.kids i r hi
  obtain ⟨pa, qa, hpav, _, _, _⟩ := h.attrs p rp hp
  obtain ⟨pk, qk, hpkv, _, _⟩ := h.kids p rp hp
  rw [hav] at c3
  rw [hkv] at c9
  rw [hpav] at p3
  rw [hpkv] at p9
  have hR := h.cR
  have hgl := h.lt.2
  have hRl := h.lt.1
  have hm := h.most
  have hil : i < rs.length := (List.getElem?_eq_some_iff.1 hi).1
  have hpl : p < rs.length := (List.getElem?_eq_some_iff.1 hp).1
  have hiz : (i : Int) < (rs.length : Int) := by omega
  have hpz : (p : Int) < (rs.length : Int) := by omega
  have hmz : (rs.length : Int) ≤ 32768 := by omega
  have HE := hidE (fun W => rescape_any r.o.data false W (by omega))
  have HED : Hid ((escS false r.o.data).data.toList = escL false r.o.data.data.toList) := hidE (by unfold escS; simp)
  generalize escS false r.o.data = es at HE HED
  have HP := hidE (fun W => rplain_any rp.o.name sc W)
  have HB0 := hidE (((Below.refl _ w).alloc (Nat.le_refl _) (.cells #[.int .i64 r.o.kind, .int .i64 r.o.space, .string r.o.name, .slice aa r.o.attrs.length ca, .string r.o.data, .string r.o.system, .int .i64 r.o.inner, .int .i64 r.o.host, .int .i64 r.o.up, .slice ak r.o.kids.length ck] 90)).alloc (by simp) (.cells #[.int .i64 rp.o.kind, .int .i64 rp.o.space, .string rp.o.name, .slice pa rp.o.attrs.length qa, .string rp.o.data, .string rp.o.system, .int .i64 rp.o.inner, .int .i64 rp.o.host, .int .i64 rp.o.up, .slice pk rp.o.kids.length qk] 90))
  rw [hk] at c0 HB0
  clear h hi hp hav hkv hpav hpkv hm hk
  unfold htmlM
  cases h1 : (rp.o.kind == 1) with
  | false =>
    go_enter Try.func59, Try.ntmps59
    go_wp2_with (go_at_call 18; refine ((unhidE HE) _).mono ?_; rintro e w3 ⟨rfl, hb3⟩; have HB3 := hidE ((unhidE HB0).trans (hb3.mono (unhidE HB0).size)); clear hb3)
    go_ret
    exact ⟨⟨_, rfl, unhidE HED⟩, unhidE HB3⟩
  | true =>
    cases h2 : (rp.o.space == 0) with
    | false =>
      go_enter Try.func59, Try.ntmps59
      go_wp2_with (go_at_call 18; refine ((unhidE HE) _).mono ?_; rintro e w3 ⟨rfl, hb3⟩; have HB3 := hidE ((unhidE HB0).trans (hb3.mono (unhidE HB0).size)); clear hb3)
      go_ret
      exact ⟨⟨_, rfl, unhidE HED⟩, unhidE HB3⟩
    | true =>
      cases h3 : plainM rp.o.name sc with
      | true =>
        rw [h3] at HP
        go_enter Try.func59, Try.ntmps59
        go_wp2_with (go_at_call 16; refine ((unhidE HP) _).mono ?_; rintro e w2 ⟨rfl, rfl⟩)
        go_ret
        exact ⟨⟨_, rfl, rfl⟩, unhidE HB0⟩
      | false =>
        rw [h3] at HP
        go_enter Try.func59, Try.ntmps59
        go_wp2_with (first
          | (go_at_call 16; refine ((unhidE HP) _).mono ?_; rintro e w2 ⟨rfl, rfl⟩)
          | (go_at_call 18; refine ((unhidE HE) _).mono ?_; rintro e w3 ⟨rfl, hb3⟩; have HB3 := hidE ((unhidE HB0).trans (hb3.mono (unhidE HB0).size)); clear hb3))
        go_ret
        exact ⟨⟨_, rfl, unhidE HED⟩, unhidE HB3⟩
end Go.Proofs.Ytfcagiacjpcpeaa
