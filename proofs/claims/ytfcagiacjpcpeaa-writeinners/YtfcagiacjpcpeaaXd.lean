/-
  The document's text of what is in a node: below.
-/
import Derived.Test.YtfcagiacjpcpeaaXc
namespace Go.Proofs.Ytfcagiacjpcpeaa
open Go.RowKit Go.Lib

set_option maxHeartbeats 4000000 in
theorem below_void {w : World} {base bR g cap : Nat} {rs : List OneR} (h : Rf w base bR g cap rs) (i : Nat) (r : OneR) (hi : rs[i]? = some r) (sc : Bool) (hv : voidO r.o = true) :
    Calls Try.prog 38 #[.pointer (some ⟨bR, 0, none⟩), .int .i64 i, .bool sc] w fun e w' => (∃ s : ByteArray, e = .returned (.string s) ∧ s.data.toList = []) ∧ Below w.heap.size w w' := by
  obtain ⟨c0, c1, c2, c3, c4, c5, c6, c7, c8, c9⟩ := h.cells10 hi
  obtain ⟨aa, ca, hav, _, _, _⟩ := h.attrs i r hi
  obtain ⟨ak, ck, hkv, _, _⟩ := h.kids i r hi
  rw [hav] at c3
  rw [hkv] at c9
  have hR := h.cR
  have hgl := h.lt.2
  have hm := h.most
  have hil : i < rs.length := (List.getElem?_eq_some_iff.1 hi).1
  have hiz : (i : Int) < (rs.length : Int) := by omega
  have hmz : (rs.length : Int) ≤ 32768 := by omega
  unfold voidO htmlM at hv
  rw [Bool.and_eq_true, Bool.and_eq_true] at hv
  obtain ⟨⟨h1, h2⟩, h3⟩ := hv
  have h1' : r.o.kind = 1 := by simpa using h1
  have h2' : r.o.space = 0 := by simpa using h2
  have HV := hidE (fun W => rvoid_any r.o.name W)
  rw [h3] at HV
  rw [h1'] at c0
  rw [h2'] at c1
  clear h hi hav hkv hm h1 h2 h3 h1' h2'
  go_enter Try.func38, Try.ntmps38
  go_wp2_with (go_at_call 14; refine ((unhidE HV) _).mono ?_; rintro e w2 ⟨rfl, rfl⟩)
  go_ret
  exact ⟨⟨_, rfl, rfl⟩, below_new w _⟩

set_option maxHeartbeats 8000000 in
theorem below_plain {w : World} {base bR g cap : Nat} {rs : List OneR} (h : Rf w base bR g cap rs) (i q : Nat) (r rq : OneR) (hi : rs[i]? = some r) (hq : rs[q]? = some rq) (sc : Bool) (T : Nat → List UInt8) (hv : voidO r.o = false) (hin : r.o.inner = -1 ∧ q = i)
    (hone : ∀ k ∈ rq.o.kids, ∀ W, Below w.heap.size w W → Calls Try.prog 59 #[.pointer (some ⟨bR, 0, none⟩), .int .i64 (k : Nat), .int .i64 q, .bool sc] W fun e w' => (∃ s : ByteArray, e = .returned (.string s) ∧ s.data.toList = T k) ∧ Below W.heap.size W w')
    (hlen : ∀ j, ((rq.o.kids.take j).flatMap T).length ≤ 100000000000000) :
    Calls Try.prog 38 #[.pointer (some ⟨bR, 0, none⟩), .int .i64 i, .bool sc] w fun e w' => (∃ s : ByteArray, e = .returned (.string s) ∧ s.data.toList = rq.o.kids.flatMap T) ∧ Below w.heap.size w w' := by
  obtain ⟨c0, c1, c2, c3, c4, c5, c6, c7, c8, c9⟩ := h.cells10 hi
  obtain ⟨aa, ca, hav, _, _, _⟩ := h.attrs i r hi
  obtain ⟨ak, ck, hkv, _, _⟩ := h.kids i r hi
  rw [hav] at c3
  rw [hkv] at c9
  have hR := h.cR
  have hgl := h.lt.2
  have hm := h.most
  have hil : i < rs.length := (List.getElem?_eq_some_iff.1 hi).1
  have hiz : (i : Int) < (rs.length : Int) := by omega
  have hql : q < rs.length := (List.getElem?_eq_some_iff.1 hq).1
  have hqz : (q : Int) < (rs.length : Int) := by omega
  have hmz : (rs.length : Int) ≤ 32768 := by omega
  have HBS := hidE (below_new w (.cells #[.int .i64 r.o.kind, .int .i64 r.o.space, .string r.o.name, .slice aa r.o.attrs.length ca, .string r.o.data, .string r.o.system, .int .i64 r.o.inner, .int .i64 r.o.host, .int .i64 r.o.up, .slice ak r.o.kids.length ck] 90))
  have HRF := hidE h
  have HQ := hidE hq
  have HONE := hidE hone
  have HLEN := hidE hlen
  have HV := hidE (fun W => rvoid_any r.o.name W)
  obtain ⟨hin1, rfl⟩ := hin
  rw [hin1] at c6 HBS
  clear h hi hq hav hkv hm hone hlen hin1 hiz hil
  cases h1 : (r.o.kind == 1) with
  | false =>
    go_enter Try.func38, Try.ntmps38
    go_wp2
    go_loopg [8, 9] rq.o.kids.length (fun k s8 s9 wx => ∃ (j : Nat) (sb : ByteArray), s9 = .int .i64 j ∧ s8 = .string sb ∧ sb.data.toList = (rq.o.kids.take j).flatMap T ∧ j + k = rq.o.kids.length ∧ Below w.heap.size w wx)
    case atStart => exact ⟨0, _, rfl, rfl, by simp, by omega, unhidE HBS⟩
    case round =>
      obtain ⟨j, sb, rfl, rfl, hsb, hjk, hbx⟩ := hrel
      have hx := (unhidE HRF).below hbx
      have x0 := hx.cR
      obtain ⟨_, _, _, _, _, _, _, _, _, x9⟩ := hx.cells10 (unhidE HQ)
      obtain ⟨kk, kc, hkk, hints, hkl⟩ := hx.kids q rq (unhidE HQ)
      rw [hkk] at x9
      have hklz : (rq.o.kids.length : Int) ≤ 32768 := by omega
      by_cases hj : j < rq.o.kids.length
      · have hjz : (j : Int) < (rq.o.kids.length : Int) := by omega
        obtain ⟨k, hk⟩ : ∃ k, rq.o.kids[j]? = some k := ⟨_, List.getElem?_eq_getElem hj⟩
        obtain ⟨b, off, rfl, xk⟩ := hints.cells j k hk
        have HO := hidE ((unhidE HONE) k (List.mem_of_getElem? hk) wr hbx)
        have HBX := hidE hbx
        have HD : Hid (∀ so : ByteArray, so.data.toList = T k → (sb ++ so).data.toList = (rq.o.kids.take (j + 1)).flatMap T) := hidE (fun so hso => by
          rw [List.take_add_one, hk]
          simp [ByteArray.data_append, hsb, hso])
        have hsz : sb.size ≤ 100000000000000 := by rw [← len_data, hsb]; exact (unhidE HLEN) j
        have hsz2 : (sb.size : Int) ≤ 100000000000000 := by omega
        have HTL : Hid ((T k).length ≤ 100000000000000) := hidE (by
          have h1 := (unhidE HLEN) (j + 1)
          rw [List.take_add_one, hk] at h1
          simp at h1
          omega)
        clear hsb hbx hx hints hk hkk
        go_wp2_with (go_at_call 59; refine (unhidE HO).mono ?_; rintro e w6 ⟨⟨so, rfl, hso⟩, hb6⟩; have HSO := hidE ((unhidE HD) so hso); have hsoz : (so.size : Int) ≤ 100000000000000 := (by rw [← len_data, hso]; have := unhidE HTL; omega); have HB6 := hidE ((unhidE HBX).trans (hb6.mono (unhidE HBX).size)); clear hb6 hso)
        go_roundg (gk - 1)
        case measure => omega
        case rel => exact ⟨j + 1, _, by go_num, rfl, unhidE HSO, by omega, unhidE HB6⟩
      · have hjz : ¬ (j : Int) < (rq.o.kids.length : Int) := by omega
        obtain rfl : j = rq.o.kids.length := by omega
        rw [List.take_length] at hsb
        have HSB := hidE hsb
        have HBX := hidE hbx
        clear hsb hbx hx hints hkk
        go_wp2
        go_ret
        exact ⟨⟨_, rfl, unhidE HSB⟩, unhidE HBX⟩
  | true =>
    cases h2 : (r.o.space == 0) with
    | false =>
      go_enter Try.func38, Try.ntmps38
      go_wp2
      go_loopg [8, 9] rq.o.kids.length (fun k s8 s9 wx => ∃ (j : Nat) (sb : ByteArray), s9 = .int .i64 j ∧ s8 = .string sb ∧ sb.data.toList = (rq.o.kids.take j).flatMap T ∧ j + k = rq.o.kids.length ∧ Below w.heap.size w wx)
      case atStart => exact ⟨0, _, rfl, rfl, by simp, by omega, unhidE HBS⟩
      case round =>
        obtain ⟨j, sb, rfl, rfl, hsb, hjk, hbx⟩ := hrel
        have hx := (unhidE HRF).below hbx
        have x0 := hx.cR
        obtain ⟨_, _, _, _, _, _, _, _, _, x9⟩ := hx.cells10 (unhidE HQ)
        obtain ⟨kk, kc, hkk, hints, hkl⟩ := hx.kids q rq (unhidE HQ)
        rw [hkk] at x9
        have hklz : (rq.o.kids.length : Int) ≤ 32768 := by omega
        by_cases hj : j < rq.o.kids.length
        · have hjz : (j : Int) < (rq.o.kids.length : Int) := by omega
          obtain ⟨k, hk⟩ : ∃ k, rq.o.kids[j]? = some k := ⟨_, List.getElem?_eq_getElem hj⟩
          obtain ⟨b, off, rfl, xk⟩ := hints.cells j k hk
          have HO := hidE ((unhidE HONE) k (List.mem_of_getElem? hk) wr hbx)
          have HBX := hidE hbx
          have HD : Hid (∀ so : ByteArray, so.data.toList = T k → (sb ++ so).data.toList = (rq.o.kids.take (j + 1)).flatMap T) := hidE (fun so hso => by
            rw [List.take_add_one, hk]
            simp [ByteArray.data_append, hsb, hso])
          have hsz : sb.size ≤ 100000000000000 := by rw [← len_data, hsb]; exact (unhidE HLEN) j
          have hsz2 : (sb.size : Int) ≤ 100000000000000 := by omega
          have HTL : Hid ((T k).length ≤ 100000000000000) := hidE (by
            have h1 := (unhidE HLEN) (j + 1)
            rw [List.take_add_one, hk] at h1
            simp at h1
            omega)
          clear hsb hbx hx hints hk hkk
          go_wp2_with (go_at_call 59; refine (unhidE HO).mono ?_; rintro e w6 ⟨⟨so, rfl, hso⟩, hb6⟩; have HSO := hidE ((unhidE HD) so hso); have hsoz : (so.size : Int) ≤ 100000000000000 := (by rw [← len_data, hso]; have := unhidE HTL; omega); have HB6 := hidE ((unhidE HBX).trans (hb6.mono (unhidE HBX).size)); clear hb6 hso)
          go_roundg (gk - 1)
          case measure => omega
          case rel => exact ⟨j + 1, _, by go_num, rfl, unhidE HSO, by omega, unhidE HB6⟩
        · have hjz : ¬ (j : Int) < (rq.o.kids.length : Int) := by omega
          obtain rfl : j = rq.o.kids.length := by omega
          rw [List.take_length] at hsb
          have HSB := hidE hsb
          have HBX := hidE hbx
          clear hsb hbx hx hints hkk
          go_wp2
          go_ret
          exact ⟨⟨_, rfl, unhidE HSB⟩, unhidE HBX⟩
    | true =>
      have h3 : hasN voids r.o.name = false := by unfold voidO htmlM at hv; rw [h1, h2] at hv; simpa using hv
      rw [h3] at HV
      clear h3
      go_enter Try.func38, Try.ntmps38
      go_wp2_with (go_at_call 14; refine ((unhidE HV) _).mono ?_; rintro e w2 ⟨rfl, rfl⟩)
      go_loopg [8, 9] rq.o.kids.length (fun k s8 s9 wx => ∃ (j : Nat) (sb : ByteArray), s9 = .int .i64 j ∧ s8 = .string sb ∧ sb.data.toList = (rq.o.kids.take j).flatMap T ∧ j + k = rq.o.kids.length ∧ Below w.heap.size w wx)
      case atStart => exact ⟨0, _, rfl, rfl, by simp, by omega, unhidE HBS⟩
      case round =>
        obtain ⟨j, sb, rfl, rfl, hsb, hjk, hbx⟩ := hrel
        have hx := (unhidE HRF).below hbx
        have x0 := hx.cR
        obtain ⟨_, _, _, _, _, _, _, _, _, x9⟩ := hx.cells10 (unhidE HQ)
        obtain ⟨kk, kc, hkk, hints, hkl⟩ := hx.kids q rq (unhidE HQ)
        rw [hkk] at x9
        have hklz : (rq.o.kids.length : Int) ≤ 32768 := by omega
        by_cases hj : j < rq.o.kids.length
        · have hjz : (j : Int) < (rq.o.kids.length : Int) := by omega
          obtain ⟨k, hk⟩ : ∃ k, rq.o.kids[j]? = some k := ⟨_, List.getElem?_eq_getElem hj⟩
          obtain ⟨b, off, rfl, xk⟩ := hints.cells j k hk
          have HO := hidE ((unhidE HONE) k (List.mem_of_getElem? hk) wr hbx)
          have HBX := hidE hbx
          have HD : Hid (∀ so : ByteArray, so.data.toList = T k → (sb ++ so).data.toList = (rq.o.kids.take (j + 1)).flatMap T) := hidE (fun so hso => by
            rw [List.take_add_one, hk]
            simp [ByteArray.data_append, hsb, hso])
          have hsz : sb.size ≤ 100000000000000 := by rw [← len_data, hsb]; exact (unhidE HLEN) j
          have hsz2 : (sb.size : Int) ≤ 100000000000000 := by omega
          have HTL : Hid ((T k).length ≤ 100000000000000) := hidE (by
            have h1 := (unhidE HLEN) (j + 1)
            rw [List.take_add_one, hk] at h1
            simp at h1
            omega)
          clear hsb hbx hx hints hk hkk
          go_wp2_with (go_at_call 59; refine (unhidE HO).mono ?_; rintro e w6 ⟨⟨so, rfl, hso⟩, hb6⟩; have HSO := hidE ((unhidE HD) so hso); have hsoz : (so.size : Int) ≤ 100000000000000 := (by rw [← len_data, hso]; have := unhidE HTL; omega); have HB6 := hidE ((unhidE HBX).trans (hb6.mono (unhidE HBX).size)); clear hb6 hso)
          go_roundg (gk - 1)
          case measure => omega
          case rel => exact ⟨j + 1, _, by go_num, rfl, unhidE HSO, by omega, unhidE HB6⟩
        · have hjz : ¬ (j : Int) < (rq.o.kids.length : Int) := by omega
          obtain rfl : j = rq.o.kids.length := by omega
          rw [List.take_length] at hsb
          have HSB := hidE hsb
          have HBX := hidE hbx
          clear hsb hbx hx hints hkk
          go_wp2
          go_ret
          exact ⟨⟨_, rfl, unhidE HSB⟩, unhidE HBX⟩

set_option maxHeartbeats 8000000 in
theorem below_inner {w : World} {base bR g cap : Nat} {rs : List OneR} (h : Rf w base bR g cap rs) (i q : Nat) (r rq : OneR) (hi : rs[i]? = some r) (hq : rs[q]? = some rq) (sc : Bool) (T : Nat → List UInt8) (hv : voidO r.o = false) (hin : r.o.inner = (q : Int))
    (hone : ∀ k ∈ rq.o.kids, ∀ W, Below w.heap.size w W → Calls Try.prog 59 #[.pointer (some ⟨bR, 0, none⟩), .int .i64 (k : Nat), .int .i64 q, .bool sc] W fun e w' => (∃ s : ByteArray, e = .returned (.string s) ∧ s.data.toList = T k) ∧ Below W.heap.size W w')
    (hlen : ∀ j, ((rq.o.kids.take j).flatMap T).length ≤ 100000000000000) :
    Calls Try.prog 38 #[.pointer (some ⟨bR, 0, none⟩), .int .i64 i, .bool sc] w fun e w' => (∃ s : ByteArray, e = .returned (.string s) ∧ s.data.toList = rq.o.kids.flatMap T) ∧ Below w.heap.size w w' := by
  obtain ⟨c0, c1, c2, c3, c4, c5, c6, c7, c8, c9⟩ := h.cells10 hi
  obtain ⟨aa, ca, hav, _, _, _⟩ := h.attrs i r hi
  obtain ⟨ak, ck, hkv, _, _⟩ := h.kids i r hi
  rw [hav] at c3
  rw [hkv] at c9
  have hR := h.cR
  have hgl := h.lt.2
  have hm := h.most
  have hil : i < rs.length := (List.getElem?_eq_some_iff.1 hi).1
  have hiz : (i : Int) < (rs.length : Int) := by omega
  have hql : q < rs.length := (List.getElem?_eq_some_iff.1 hq).1
  have hqz : (q : Int) < (rs.length : Int) := by omega
  have hmz : (rs.length : Int) ≤ 32768 := by omega
  have HBS := hidE (below_new w (.cells #[.int .i64 r.o.kind, .int .i64 r.o.space, .string r.o.name, .slice aa r.o.attrs.length ca, .string r.o.data, .string r.o.system, .int .i64 r.o.inner, .int .i64 r.o.host, .int .i64 r.o.up, .slice ak r.o.kids.length ck] 90))
  have HRF := hidE h
  have HQ := hidE hq
  have HONE := hidE hone
  have HLEN := hidE hlen
  have HV := hidE (fun W => rvoid_any r.o.name W)
  have hne : ((q : Int) != -1) = true := by rw [bne_iff_ne]; omega
  rw [hin] at c6 HBS
  clear h hi hq hav hkv hm hone hlen hin
  cases h1 : (r.o.kind == 1) with
  | false =>
    go_enter Try.func38, Try.ntmps38
    go_wp2
    go_loopg [8, 9] rq.o.kids.length (fun k s8 s9 wx => ∃ (j : Nat) (sb : ByteArray), s9 = .int .i64 j ∧ s8 = .string sb ∧ sb.data.toList = (rq.o.kids.take j).flatMap T ∧ j + k = rq.o.kids.length ∧ Below w.heap.size w wx)
    case atStart => exact ⟨0, _, rfl, rfl, by simp, by omega, unhidE HBS⟩
    case round =>
      obtain ⟨j, sb, rfl, rfl, hsb, hjk, hbx⟩ := hrel
      have hx := (unhidE HRF).below hbx
      have x0 := hx.cR
      obtain ⟨_, _, _, _, _, _, _, _, _, x9⟩ := hx.cells10 (unhidE HQ)
      obtain ⟨kk, kc, hkk, hints, hkl⟩ := hx.kids q rq (unhidE HQ)
      rw [hkk] at x9
      have hklz : (rq.o.kids.length : Int) ≤ 32768 := by omega
      by_cases hj : j < rq.o.kids.length
      · have hjz : (j : Int) < (rq.o.kids.length : Int) := by omega
        obtain ⟨k, hk⟩ : ∃ k, rq.o.kids[j]? = some k := ⟨_, List.getElem?_eq_getElem hj⟩
        obtain ⟨b, off, rfl, xk⟩ := hints.cells j k hk
        have HO := hidE ((unhidE HONE) k (List.mem_of_getElem? hk) wr hbx)
        have HBX := hidE hbx
        have HD : Hid (∀ so : ByteArray, so.data.toList = T k → (sb ++ so).data.toList = (rq.o.kids.take (j + 1)).flatMap T) := hidE (fun so hso => by
          rw [List.take_add_one, hk]
          simp [ByteArray.data_append, hsb, hso])
        have hsz : sb.size ≤ 100000000000000 := by rw [← len_data, hsb]; exact (unhidE HLEN) j
        have hsz2 : (sb.size : Int) ≤ 100000000000000 := by omega
        have HTL : Hid ((T k).length ≤ 100000000000000) := hidE (by
          have h1 := (unhidE HLEN) (j + 1)
          rw [List.take_add_one, hk] at h1
          simp at h1
          omega)
        clear hsb hbx hx hints hk hkk
        go_wp2_with (go_at_call 59; refine (unhidE HO).mono ?_; rintro e w6 ⟨⟨so, rfl, hso⟩, hb6⟩; have HSO := hidE ((unhidE HD) so hso); have hsoz : (so.size : Int) ≤ 100000000000000 := (by rw [← len_data, hso]; have := unhidE HTL; omega); have HB6 := hidE ((unhidE HBX).trans (hb6.mono (unhidE HBX).size)); clear hb6 hso)
        go_roundg (gk - 1)
        case measure => omega
        case rel => exact ⟨j + 1, _, by go_num, rfl, unhidE HSO, by omega, unhidE HB6⟩
      · have hjz : ¬ (j : Int) < (rq.o.kids.length : Int) := by omega
        obtain rfl : j = rq.o.kids.length := by omega
        rw [List.take_length] at hsb
        have HSB := hidE hsb
        have HBX := hidE hbx
        clear hsb hbx hx hints hkk
        go_wp2
        go_ret
        exact ⟨⟨_, rfl, unhidE HSB⟩, unhidE HBX⟩
  | true =>
    cases h2 : (r.o.space == 0) with
    | false =>
      go_enter Try.func38, Try.ntmps38
      go_wp2
      go_loopg [8, 9] rq.o.kids.length (fun k s8 s9 wx => ∃ (j : Nat) (sb : ByteArray), s9 = .int .i64 j ∧ s8 = .string sb ∧ sb.data.toList = (rq.o.kids.take j).flatMap T ∧ j + k = rq.o.kids.length ∧ Below w.heap.size w wx)
      case atStart => exact ⟨0, _, rfl, rfl, by simp, by omega, unhidE HBS⟩
      case round =>
        obtain ⟨j, sb, rfl, rfl, hsb, hjk, hbx⟩ := hrel
        have hx := (unhidE HRF).below hbx
        have x0 := hx.cR
        obtain ⟨_, _, _, _, _, _, _, _, _, x9⟩ := hx.cells10 (unhidE HQ)
        obtain ⟨kk, kc, hkk, hints, hkl⟩ := hx.kids q rq (unhidE HQ)
        rw [hkk] at x9
        have hklz : (rq.o.kids.length : Int) ≤ 32768 := by omega
        by_cases hj : j < rq.o.kids.length
        · have hjz : (j : Int) < (rq.o.kids.length : Int) := by omega
          obtain ⟨k, hk⟩ : ∃ k, rq.o.kids[j]? = some k := ⟨_, List.getElem?_eq_getElem hj⟩
          obtain ⟨b, off, rfl, xk⟩ := hints.cells j k hk
          have HO := hidE ((unhidE HONE) k (List.mem_of_getElem? hk) wr hbx)
          have HBX := hidE hbx
          have HD : Hid (∀ so : ByteArray, so.data.toList = T k → (sb ++ so).data.toList = (rq.o.kids.take (j + 1)).flatMap T) := hidE (fun so hso => by
            rw [List.take_add_one, hk]
            simp [ByteArray.data_append, hsb, hso])
          have hsz : sb.size ≤ 100000000000000 := by rw [← len_data, hsb]; exact (unhidE HLEN) j
          have hsz2 : (sb.size : Int) ≤ 100000000000000 := by omega
          have HTL : Hid ((T k).length ≤ 100000000000000) := hidE (by
            have h1 := (unhidE HLEN) (j + 1)
            rw [List.take_add_one, hk] at h1
            simp at h1
            omega)
          clear hsb hbx hx hints hk hkk
          go_wp2_with (go_at_call 59; refine (unhidE HO).mono ?_; rintro e w6 ⟨⟨so, rfl, hso⟩, hb6⟩; have HSO := hidE ((unhidE HD) so hso); have hsoz : (so.size : Int) ≤ 100000000000000 := (by rw [← len_data, hso]; have := unhidE HTL; omega); have HB6 := hidE ((unhidE HBX).trans (hb6.mono (unhidE HBX).size)); clear hb6 hso)
          go_roundg (gk - 1)
          case measure => omega
          case rel => exact ⟨j + 1, _, by go_num, rfl, unhidE HSO, by omega, unhidE HB6⟩
        · have hjz : ¬ (j : Int) < (rq.o.kids.length : Int) := by omega
          obtain rfl : j = rq.o.kids.length := by omega
          rw [List.take_length] at hsb
          have HSB := hidE hsb
          have HBX := hidE hbx
          clear hsb hbx hx hints hkk
          go_wp2
          go_ret
          exact ⟨⟨_, rfl, unhidE HSB⟩, unhidE HBX⟩
    | true =>
      have h3 : hasN voids r.o.name = false := by unfold voidO htmlM at hv; rw [h1, h2] at hv; simpa using hv
      rw [h3] at HV
      clear h3
      go_enter Try.func38, Try.ntmps38
      go_wp2_with (go_at_call 14; refine ((unhidE HV) _).mono ?_; rintro e w2 ⟨rfl, rfl⟩)
      go_loopg [8, 9] rq.o.kids.length (fun k s8 s9 wx => ∃ (j : Nat) (sb : ByteArray), s9 = .int .i64 j ∧ s8 = .string sb ∧ sb.data.toList = (rq.o.kids.take j).flatMap T ∧ j + k = rq.o.kids.length ∧ Below w.heap.size w wx)
      case atStart => exact ⟨0, _, rfl, rfl, by simp, by omega, unhidE HBS⟩
      case round =>
        obtain ⟨j, sb, rfl, rfl, hsb, hjk, hbx⟩ := hrel
        have hx := (unhidE HRF).below hbx
        have x0 := hx.cR
        obtain ⟨_, _, _, _, _, _, _, _, _, x9⟩ := hx.cells10 (unhidE HQ)
        obtain ⟨kk, kc, hkk, hints, hkl⟩ := hx.kids q rq (unhidE HQ)
        rw [hkk] at x9
        have hklz : (rq.o.kids.length : Int) ≤ 32768 := by omega
        by_cases hj : j < rq.o.kids.length
        · have hjz : (j : Int) < (rq.o.kids.length : Int) := by omega
          obtain ⟨k, hk⟩ : ∃ k, rq.o.kids[j]? = some k := ⟨_, List.getElem?_eq_getElem hj⟩
          obtain ⟨b, off, rfl, xk⟩ := hints.cells j k hk
          have HO := hidE ((unhidE HONE) k (List.mem_of_getElem? hk) wr hbx)
          have HBX := hidE hbx
          have HD : Hid (∀ so : ByteArray, so.data.toList = T k → (sb ++ so).data.toList = (rq.o.kids.take (j + 1)).flatMap T) := hidE (fun so hso => by
            rw [List.take_add_one, hk]
            simp [ByteArray.data_append, hsb, hso])
          have hsz : sb.size ≤ 100000000000000 := by rw [← len_data, hsb]; exact (unhidE HLEN) j
          have hsz2 : (sb.size : Int) ≤ 100000000000000 := by omega
          have HTL : Hid ((T k).length ≤ 100000000000000) := hidE (by
            have h1 := (unhidE HLEN) (j + 1)
            rw [List.take_add_one, hk] at h1
            simp at h1
            omega)
          clear hsb hbx hx hints hk hkk
          go_wp2_with (go_at_call 59; refine (unhidE HO).mono ?_; rintro e w6 ⟨⟨so, rfl, hso⟩, hb6⟩; have HSO := hidE ((unhidE HD) so hso); have hsoz : (so.size : Int) ≤ 100000000000000 := (by rw [← len_data, hso]; have := unhidE HTL; omega); have HB6 := hidE ((unhidE HBX).trans (hb6.mono (unhidE HBX).size)); clear hb6 hso)
          go_roundg (gk - 1)
          case measure => omega
          case rel => exact ⟨j + 1, _, by go_num, rfl, unhidE HSO, by omega, unhidE HB6⟩
        · have hjz : ¬ (j : Int) < (rq.o.kids.length : Int) := by omega
          obtain rfl : j = rq.o.kids.length := by omega
          rw [List.take_length] at hsb
          have HSB := hidE hsb
          have HBX := hidE hbx
          clear hsb hbx hx hints hkk
          go_wp2
          go_ret
          exact ⟨⟨_, rfl, unhidE HSB⟩, unhidE HBX⟩
end Go.Proofs.Ytfcagiacjpcpeaa
