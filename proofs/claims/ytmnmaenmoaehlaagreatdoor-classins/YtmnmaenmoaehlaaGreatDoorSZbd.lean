/-
  The document's text of what is in a node: below. The first node that is in a node.
-/
import Derived.Test.YtmnmaenmoaehlaaGreatDoorSZbc
import Derived.Test.YtmnmaenmoaehlaaGreatDoorSZas
namespace Go.Proofs.YtmnmaenmoaehlaaGreatDoor
open Go.RowKit Go.Lib

set_option maxHeartbeats 4000000 in
theorem below_void {w : World} {base bR g cap : Nat} {rs : List OneR} (h : Rf w base bR g cap rs) (i : Nat) (r : OneR) (hi : rs[i]? = some r) (sc : Bool) (hv : voidO r.o = true) :
    Calls Tryz.prog 49 #[.pointer (some ⟨bR, 0, none⟩), .int .i64 i, .bool sc] w fun e w' => (∃ s : ByteArray, e = .returned (.string s) ∧ s.data.toList = []) ∧ Below w.heap.size w w' := by
  obtain ⟨c0, c1, c2, c3, c4, c5, c6, c7, c8, c9⟩ := h.cells10 hi
  obtain ⟨aa, ca, hav, _, _, _⟩ := h.attrs i r hi
  obtain ⟨ak, ck, hkv, _, _⟩ := h.kids i r hi
  rw [hav] at c3
  rw [hkv] at c9
  have hR := h.cR
  have hgl := h.lt.2
  have hm := h.most
  have hil : i < rs.length := (List.getElem?_eq_some_iff.1 hi).1
  have hiz : (i : Int) < (rs.length : Int) := by omega
  have hmz : (rs.length : Int) ≤ 32768 := by omega
  unfold voidO htmlM at hv
  rw [Bool.and_eq_true, Bool.and_eq_true] at hv
  obtain ⟨⟨h1, h2⟩, h3⟩ := hv
  have h1' : r.o.kind = 1 := by simpa using h1
  have h2' : r.o.space = 0 := by simpa using h2
  have HV := hidE (fun W => rvoid_any r.o.name W)
  rw [h3] at HV
  rw [h1'] at c0
  rw [h2'] at c1
  clear h hi hav hkv hm h1 h2 h3 h1' h2'
  go_enter Tryz.func49, Tryz.ntmps49
  go_wp2_with (go_at_call 73; refine ((unhidE HV) _).mono ?_; rintro e w2 ⟨rfl, rfl⟩)
  go_ret
  exact ⟨⟨_, rfl, rfl⟩, below_new w _⟩

set_option maxHeartbeats 8000000 in
theorem below_plain {w : World} {base bR g cap : Nat} {rs : List OneR} (h : Rf w base bR g cap rs) (i q : Nat) (r rq : OneR) (hi : rs[i]? = some r) (hq : rs[q]? = some rq) (sc : Bool) (T : Nat → List UInt8) (hv : voidO r.o = false) (hin : r.o.inner = -1 ∧ q = i)
    (hone : ∀ k ∈ rq.o.kids, ∀ W, Below w.heap.size w W → Calls Tryz.prog 74 #[.pointer (some ⟨bR, 0, none⟩), .int .i64 (k : Nat), .int .i64 q, .bool sc] W fun e w' => (∃ s : ByteArray, e = .returned (.string s) ∧ s.data.toList = T k) ∧ Below W.heap.size W w')
    (hlen : ∀ j, ((rq.o.kids.take j).flatMap T).length ≤ 100000000000000) :
    Calls Tryz.prog 49 #[.pointer (some ⟨bR, 0, none⟩), .int .i64 i, .bool sc] w fun e w' => (∃ s : ByteArray, e = .returned (.string s) ∧ s.data.toList = rq.o.kids.flatMap T) ∧ Below w.heap.size w w' := by
  obtain ⟨c0, c1, c2, c3, c4, c5, c6, c7, c8, c9⟩ := h.cells10 hi
  obtain ⟨aa, ca, hav, _, _, _⟩ := h.attrs i r hi
  obtain ⟨ak, ck, hkv, _, _⟩ := h.kids i r hi
  rw [hav] at c3
  rw [hkv] at c9
  have hR := h.cR
  have hgl := h.lt.2
  have hm := h.most
  have hil : i < rs.length := (List.getElem?_eq_some_iff.1 hi).1
  have hiz : (i : Int) < (rs.length : Int) := by omega
  have hql : q < rs.length := (List.getElem?_eq_some_iff.1 hq).1
  have hqz : (q : Int) < (rs.length : Int) := by omega
  have hmz : (rs.length : Int) ≤ 32768 := by omega
  have HBS := hidE (below_new w (.cells #[.int .i64 r.o.kind, .int .i64 r.o.space, .string r.o.name, .slice aa r.o.attrs.length ca, .string r.o.data, .string r.o.system, .int .i64 r.o.inner, .int .i64 r.o.host, .int .i64 r.o.up, .slice ak r.o.kids.length ck] 58))
  have HRF := hidE h
  have HQ := hidE hq
  have HONE := hidE hone
  have HLEN := hidE hlen
  have HV := hidE (fun W => rvoid_any r.o.name W)
  obtain ⟨hin1, rfl⟩ := hin
  rw [hin1] at c6 HBS
  clear h hi hq hav hkv hm hone hlen hin1 hiz hil
  cases h1 : (r.o.kind == 1) with
  | false =>
    go_enter Tryz.func49, Tryz.ntmps49
    go_wp2
    go_loopg [8, 9] rq.o.kids.length (fun k s8 s9 wx => ∃ (j : Nat) (sb : ByteArray), s9 = .int .i64 j ∧ s8 = .string sb ∧ sb.data.toList = (rq.o.kids.take j).flatMap T ∧ j + k = rq.o.kids.length ∧ Below w.heap.size w wx)
    case atStart => exact ⟨0, _, rfl, rfl, by simp, by omega, unhidE HBS⟩
    case round =>
      obtain ⟨j, sb, rfl, rfl, hsb, hjk, hbx⟩ := hrel
      have hx := (unhidE HRF).below hbx
      have x0 := hx.cR
      obtain ⟨_, _, _, _, _, _, _, _, _, x9⟩ := hx.cells10 (unhidE HQ)
      obtain ⟨kk, kc, hkk, hints, hkl⟩ := hx.kids q rq (unhidE HQ)
      rw [hkk] at x9
      have hklz : (rq.o.kids.length : Int) ≤ 32768 := by omega
      by_cases hj : j < rq.o.kids.length
      · have hjz : (j : Int) < (rq.o.kids.length : Int) := by omega
        obtain ⟨k, hk⟩ : ∃ k, rq.o.kids[j]? = some k := ⟨_, List.getElem?_eq_getElem hj⟩
        obtain ⟨b, off, rfl, xk⟩ := hints.cells j k hk
        have HO := hidE ((unhidE HONE) k (List.mem_of_getElem? hk) wr hbx)
        have HBX := hidE hbx
        have HD : Hid (∀ so : ByteArray, so.data.toList = T k → (sb ++ so).data.toList = (rq.o.kids.take (j + 1)).flatMap T) := hidE (fun so hso => by
          rw [List.take_add_one, hk]
          simp [ByteArray.data_append, hsb, hso])
        have hsz : sb.size ≤ 100000000000000 := by rw [← len_data, hsb]; exact (unhidE HLEN) j
        have hsz2 : (sb.size : Int) ≤ 100000000000000 := by omega
        have HTL : Hid ((T k).length ≤ 100000000000000) := hidE (by
          have h1 := (unhidE HLEN) (j + 1)
          rw [List.take_add_one, hk] at h1
          simp at h1
          omega)
        clear hsb hbx hx hints hk hkk
        go_wp2_with (go_at_call 74; refine (unhidE HO).mono ?_; rintro e w6 ⟨⟨so, rfl, hso⟩, hb6⟩; have HSO := hidE ((unhidE HD) so hso); have hsoz : (so.size : Int) ≤ 100000000000000 := (by rw [← len_data, hso]; have := unhidE HTL; omega); have HB6 := hidE ((unhidE HBX).trans (hb6.mono (unhidE HBX).size)); clear hb6 hso)
        go_roundg (gk - 1)
        case measure => omega
        case rel => exact ⟨j + 1, _, by go_num, rfl, unhidE HSO, by omega, unhidE HB6⟩
      · have hjz : ¬ (j : Int) < (rq.o.kids.length : Int) := by omega
        obtain rfl : j = rq.o.kids.length := by omega
        rw [List.take_length] at hsb
        have HSB := hidE hsb
        have HBX := hidE hbx
        clear hsb hbx hx hints hkk
        go_wp2
        go_ret
        exact ⟨⟨_, rfl, unhidE HSB⟩, unhidE HBX⟩
  | true =>
    cases h2 : (r.o.space == 0) with
    | false =>
      go_enter Tryz.func49, Tryz.ntmps49
      go_wp2
      go_loopg [8, 9] rq.o.kids.length (fun k s8 s9 wx => ∃ (j : Nat) (sb : ByteArray), s9 = .int .i64 j ∧ s8 = .string sb ∧ sb.data.toList = (rq.o.kids.take j).flatMap T ∧ j + k = rq.o.kids.length ∧ Below w.heap.size w wx)
      case atStart => exact ⟨0, _, rfl, rfl, by simp, by omega, unhidE HBS⟩
      case round =>
        obtain ⟨j, sb, rfl, rfl, hsb, hjk, hbx⟩ := hrel
        have hx := (unhidE HRF).below hbx
        have x0 := hx.cR
        obtain ⟨_, _, _, _, _, _, _, _, _, x9⟩ := hx.cells10 (unhidE HQ)
        obtain ⟨kk, kc, hkk, hints, hkl⟩ := hx.kids q rq (unhidE HQ)
        rw [hkk] at x9
        have hklz : (rq.o.kids.length : Int) ≤ 32768 := by omega
        by_cases hj : j < rq.o.kids.length
        · have hjz : (j : Int) < (rq.o.kids.length : Int) := by omega
          obtain ⟨k, hk⟩ : ∃ k, rq.o.kids[j]? = some k := ⟨_, List.getElem?_eq_getElem hj⟩
          obtain ⟨b, off, rfl, xk⟩ := hints.cells j k hk
          have HO := hidE ((unhidE HONE) k (List.mem_of_getElem? hk) wr hbx)
          have HBX := hidE hbx
          have HD : Hid (∀ so : ByteArray, so.data.toList = T k → (sb ++ so).data.toList = (rq.o.kids.take (j + 1)).flatMap T) := hidE (fun so hso => by
            rw [List.take_add_one, hk]
            simp [ByteArray.data_append, hsb, hso])
          have hsz : sb.size ≤ 100000000000000 := by rw [← len_data, hsb]; exact (unhidE HLEN) j
          have hsz2 : (sb.size : Int) ≤ 100000000000000 := by omega
          have HTL : Hid ((T k).length ≤ 100000000000000) := hidE (by
            have h1 := (unhidE HLEN) (j + 1)
            rw [List.take_add_one, hk] at h1
            simp at h1
            omega)
          clear hsb hbx hx hints hk hkk
          go_wp2_with (go_at_call 74; refine (unhidE HO).mono ?_; rintro e w6 ⟨⟨so, rfl, hso⟩, hb6⟩; have HSO := hidE ((unhidE HD) so hso); have hsoz : (so.size : Int) ≤ 100000000000000 := (by rw [← len_data, hso]; have := unhidE HTL; omega); have HB6 := hidE ((unhidE HBX).trans (hb6.mono (unhidE HBX).size)); clear hb6 hso)
          go_roundg (gk - 1)
          case measure => omega
          case rel => exact ⟨j + 1, _, by go_num, rfl, unhidE HSO, by omega, unhidE HB6⟩
        · have hjz : ¬ (j : Int) < (rq.o.kids.length : Int) := by omega
          obtain rfl : j = rq.o.kids.length := by omega
          rw [List.take_length] at hsb
          have HSB := hidE hsb
          have HBX := hidE hbx
          clear hsb hbx hx hints hkk
          go_wp2
          go_ret
          exact ⟨⟨_, rfl, unhidE HSB⟩, unhidE HBX⟩
    | true =>
      have h3 : hasN voids r.o.name = false := by unfold voidO htmlM at hv; rw [h1, h2] at hv; simpa using hv
      rw [h3] at HV
      clear h3
      go_enter Tryz.func49, Tryz.ntmps49
      go_wp2_with (go_at_call 73; refine ((unhidE HV) _).mono ?_; rintro e w2 ⟨rfl, rfl⟩)
      go_loopg [8, 9] rq.o.kids.length (fun k s8 s9 wx => ∃ (j : Nat) (sb : ByteArray), s9 = .int .i64 j ∧ s8 = .string sb ∧ sb.data.toList = (rq.o.kids.take j).flatMap T ∧ j + k = rq.o.kids.length ∧ Below w.heap.size w wx)
      case atStart => exact ⟨0, _, rfl, rfl, by simp, by omega, unhidE HBS⟩
      case round =>
        obtain ⟨j, sb, rfl, rfl, hsb, hjk, hbx⟩ := hrel
        have hx := (unhidE HRF).below hbx
        have x0 := hx.cR
        obtain ⟨_, _, _, _, _, _, _, _, _, x9⟩ := hx.cells10 (unhidE HQ)
        obtain ⟨kk, kc, hkk, hints, hkl⟩ := hx.kids q rq (unhidE HQ)
        rw [hkk] at x9
        have hklz : (rq.o.kids.length : Int) ≤ 32768 := by omega
        by_cases hj : j < rq.o.kids.length
        · have hjz : (j : Int) < (rq.o.kids.length : Int) := by omega
          obtain ⟨k, hk⟩ : ∃ k, rq.o.kids[j]? = some k := ⟨_, List.getElem?_eq_getElem hj⟩
          obtain ⟨b, off, rfl, xk⟩ := hints.cells j k hk
          have HO := hidE ((unhidE HONE) k (List.mem_of_getElem? hk) wr hbx)
          have HBX := hidE hbx
          have HD : Hid (∀ so : ByteArray, so.data.toList = T k → (sb ++ so).data.toList = (rq.o.kids.take (j + 1)).flatMap T) := hidE (fun so hso => by
            rw [List.take_add_one, hk]
            simp [ByteArray.data_append, hsb, hso])
          have hsz : sb.size ≤ 100000000000000 := by rw [← len_data, hsb]; exact (unhidE HLEN) j
          have hsz2 : (sb.size : Int) ≤ 100000000000000 := by omega
          have HTL : Hid ((T k).length ≤ 100000000000000) := hidE (by
            have h1 := (unhidE HLEN) (j + 1)
            rw [List.take_add_one, hk] at h1
            simp at h1
            omega)
          clear hsb hbx hx hints hk hkk
          go_wp2_with (go_at_call 74; refine (unhidE HO).mono ?_; rintro e w6 ⟨⟨so, rfl, hso⟩, hb6⟩; have HSO := hidE ((unhidE HD) so hso); have hsoz : (so.size : Int) ≤ 100000000000000 := (by rw [← len_data, hso]; have := unhidE HTL; omega); have HB6 := hidE ((unhidE HBX).trans (hb6.mono (unhidE HBX).size)); clear hb6 hso)
          go_roundg (gk - 1)
          case measure => omega
          case rel => exact ⟨j + 1, _, by go_num, rfl, unhidE HSO, by omega, unhidE HB6⟩
        · have hjz : ¬ (j : Int) < (rq.o.kids.length : Int) := by omega
          obtain rfl : j = rq.o.kids.length := by omega
          rw [List.take_length] at hsb
          have HSB := hidE hsb
          have HBX := hidE hbx
          clear hsb hbx hx hints hkk
          go_wp2
          go_ret
          exact ⟨⟨_, rfl, unhidE HSB⟩, unhidE HBX⟩

set_option maxHeartbeats 8000000 in
theorem below_inner {w : World} {base bR g cap : Nat} {rs : List OneR} (h : Rf w base bR g cap rs) (i q : Nat) (r rq : OneR) (hi : rs[i]? = some r) (hq : rs[q]? = some rq) (sc : Bool) (T : Nat → List UInt8) (hv : voidO r.o = false) (hin : r.o.inner = (q : Int))
    (hone : ∀ k ∈ rq.o.kids, ∀ W, Below w.heap.size w W → Calls Tryz.prog 74 #[.pointer (some ⟨bR, 0, none⟩), .int .i64 (k : Nat), .int .i64 q, .bool sc] W fun e w' => (∃ s : ByteArray, e = .returned (.string s) ∧ s.data.toList = T k) ∧ Below W.heap.size W w')
    (hlen : ∀ j, ((rq.o.kids.take j).flatMap T).length ≤ 100000000000000) :
    Calls Tryz.prog 49 #[.pointer (some ⟨bR, 0, none⟩), .int .i64 i, .bool sc] w fun e w' => (∃ s : ByteArray, e = .returned (.string s) ∧ s.data.toList = rq.o.kids.flatMap T) ∧ Below w.heap.size w w' := by
  obtain ⟨c0, c1, c2, c3, c4, c5, c6, c7, c8, c9⟩ := h.cells10 hi
  obtain ⟨aa, ca, hav, _, _, _⟩ := h.attrs i r hi
  obtain ⟨ak, ck, hkv, _, _⟩ := h.kids i r hi
  rw [hav] at c3
  rw [hkv] at c9
  have hR := h.cR
  have hgl := h.lt.2
  have hm := h.most
  have hil : i < rs.length := (List.getElem?_eq_some_iff.1 hi).1
  have hiz : (i : Int) < (rs.length : Int) := by omega
  have hql : q < rs.length := (List.getElem?_eq_some_iff.1 hq).1
  have hqz : (q : Int) < (rs.length : Int) := by omega
  have hmz : (rs.length : Int) ≤ 32768 := by omega
  have HBS := hidE (below_new w (.cells #[.int .i64 r.o.kind, .int .i64 r.o.space, .string r.o.name, .slice aa r.o.attrs.length ca, .string r.o.data, .string r.o.system, .int .i64 r.o.inner, .int .i64 r.o.host, .int .i64 r.o.up, .slice ak r.o.kids.length ck] 58))
  have HRF := hidE h
  have HQ := hidE hq
  have HONE := hidE hone
  have HLEN := hidE hlen
  have HV := hidE (fun W => rvoid_any r.o.name W)
  have hne : ((q : Int) != -1) = true := by rw [bne_iff_ne]; omega
  rw [hin] at c6 HBS
  clear h hi hq hav hkv hm hone hlen hin
  cases h1 : (r.o.kind == 1) with
  | false =>
    go_enter Tryz.func49, Tryz.ntmps49
    go_wp2
    go_loopg [8, 9] rq.o.kids.length (fun k s8 s9 wx => ∃ (j : Nat) (sb : ByteArray), s9 = .int .i64 j ∧ s8 = .string sb ∧ sb.data.toList = (rq.o.kids.take j).flatMap T ∧ j + k = rq.o.kids.length ∧ Below w.heap.size w wx)
    case atStart => exact ⟨0, _, rfl, rfl, by simp, by omega, unhidE HBS⟩
    case round =>
      obtain ⟨j, sb, rfl, rfl, hsb, hjk, hbx⟩ := hrel
      have hx := (unhidE HRF).below hbx
      have x0 := hx.cR
      obtain ⟨_, _, _, _, _, _, _, _, _, x9⟩ := hx.cells10 (unhidE HQ)
      obtain ⟨kk, kc, hkk, hints, hkl⟩ := hx.kids q rq (unhidE HQ)
      rw [hkk] at x9
      have hklz : (rq.o.kids.length : Int) ≤ 32768 := by omega
      by_cases hj : j < rq.o.kids.length
      · have hjz : (j : Int) < (rq.o.kids.length : Int) := by omega
        obtain ⟨k, hk⟩ : ∃ k, rq.o.kids[j]? = some k := ⟨_, List.getElem?_eq_getElem hj⟩
        obtain ⟨b, off, rfl, xk⟩ := hints.cells j k hk
        have HO := hidE ((unhidE HONE) k (List.mem_of_getElem? hk) wr hbx)
        have HBX := hidE hbx
        have HD : Hid (∀ so : ByteArray, so.data.toList = T k → (sb ++ so).data.toList = (rq.o.kids.take (j + 1)).flatMap T) := hidE (fun so hso => by
          rw [List.take_add_one, hk]
          simp [ByteArray.data_append, hsb, hso])
        have hsz : sb.size ≤ 100000000000000 := by rw [← len_data, hsb]; exact (unhidE HLEN) j
        have hsz2 : (sb.size : Int) ≤ 100000000000000 := by omega
        have HTL : Hid ((T k).length ≤ 100000000000000) := hidE (by
          have h1 := (unhidE HLEN) (j + 1)
          rw [List.take_add_one, hk] at h1
          simp at h1
          omega)
        clear hsb hbx hx hints hk hkk
        go_wp2_with (go_at_call 74; refine (unhidE HO).mono ?_; rintro e w6 ⟨⟨so, rfl, hso⟩, hb6⟩; have HSO := hidE ((unhidE HD) so hso); have hsoz : (so.size : Int) ≤ 100000000000000 := (by rw [← len_data, hso]; have := unhidE HTL; omega); have HB6 := hidE ((unhidE HBX).trans (hb6.mono (unhidE HBX).size)); clear hb6 hso)
        go_roundg (gk - 1)
        case measure => omega
        case rel => exact ⟨j + 1, _, by go_num, rfl, unhidE HSO, by omega, unhidE HB6⟩
      · have hjz : ¬ (j : Int) < (rq.o.kids.length : Int) := by omega
        obtain rfl : j = rq.o.kids.length := by omega
        rw [List.take_length] at hsb
        have HSB := hidE hsb
        have HBX := hidE hbx
        clear hsb hbx hx hints hkk
        go_wp2
        go_ret
        exact ⟨⟨_, rfl, unhidE HSB⟩, unhidE HBX⟩
  | true =>
    cases h2 : (r.o.space == 0) with
    | false =>
      go_enter Tryz.func49, Tryz.ntmps49
      go_wp2
      go_loopg [8, 9] rq.o.kids.length (fun k s8 s9 wx => ∃ (j : Nat) (sb : ByteArray), s9 = .int .i64 j ∧ s8 = .string sb ∧ sb.data.toList = (rq.o.kids.take j).flatMap T ∧ j + k = rq.o.kids.length ∧ Below w.heap.size w wx)
      case atStart => exact ⟨0, _, rfl, rfl, by simp, by omega, unhidE HBS⟩
      case round =>
        obtain ⟨j, sb, rfl, rfl, hsb, hjk, hbx⟩ := hrel
        have hx := (unhidE HRF).below hbx
        have x0 := hx.cR
        obtain ⟨_, _, _, _, _, _, _, _, _, x9⟩ := hx.cells10 (unhidE HQ)
        obtain ⟨kk, kc, hkk, hints, hkl⟩ := hx.kids q rq (unhidE HQ)
        rw [hkk] at x9
        have hklz : (rq.o.kids.length : Int) ≤ 32768 := by omega
        by_cases hj : j < rq.o.kids.length
        · have hjz : (j : Int) < (rq.o.kids.length : Int) := by omega
          obtain ⟨k, hk⟩ : ∃ k, rq.o.kids[j]? = some k := ⟨_, List.getElem?_eq_getElem hj⟩
          obtain ⟨b, off, rfl, xk⟩ := hints.cells j k hk
          have HO := hidE ((unhidE HONE) k (List.mem_of_getElem? hk) wr hbx)
          have HBX := hidE hbx
          have HD : Hid (∀ so : ByteArray, so.data.toList = T k → (sb ++ so).data.toList = (rq.o.kids.take (j + 1)).flatMap T) := hidE (fun so hso => by
            rw [List.take_add_one, hk]
            simp [ByteArray.data_append, hsb, hso])
          have hsz : sb.size ≤ 100000000000000 := by rw [← len_data, hsb]; exact (unhidE HLEN) j
          have hsz2 : (sb.size : Int) ≤ 100000000000000 := by omega
          have HTL : Hid ((T k).length ≤ 100000000000000) := hidE (by
            have h1 := (unhidE HLEN) (j + 1)
            rw [List.take_add_one, hk] at h1
            simp at h1
            omega)
          clear hsb hbx hx hints hk hkk
          go_wp2_with (go_at_call 74; refine (unhidE HO).mono ?_; rintro e w6 ⟨⟨so, rfl, hso⟩, hb6⟩; have HSO := hidE ((unhidE HD) so hso); have hsoz : (so.size : Int) ≤ 100000000000000 := (by rw [← len_data, hso]; have := unhidE HTL; omega); have HB6 := hidE ((unhidE HBX).trans (hb6.mono (unhidE HBX).size)); clear hb6 hso)
          go_roundg (gk - 1)
          case measure => omega
          case rel => exact ⟨j + 1, _, by go_num, rfl, unhidE HSO, by omega, unhidE HB6⟩
        · have hjz : ¬ (j : Int) < (rq.o.kids.length : Int) := by omega
          obtain rfl : j = rq.o.kids.length := by omega
          rw [List.take_length] at hsb
          have HSB := hidE hsb
          have HBX := hidE hbx
          clear hsb hbx hx hints hkk
          go_wp2
          go_ret
          exact ⟨⟨_, rfl, unhidE HSB⟩, unhidE HBX⟩
    | true =>
      have h3 : hasN voids r.o.name = false := by unfold voidO htmlM at hv; rw [h1, h2] at hv; simpa using hv
      rw [h3] at HV
      clear h3
      go_enter Tryz.func49, Tryz.ntmps49
      go_wp2_with (go_at_call 73; refine ((unhidE HV) _).mono ?_; rintro e w2 ⟨rfl, rfl⟩)
      go_loopg [8, 9] rq.o.kids.length (fun k s8 s9 wx => ∃ (j : Nat) (sb : ByteArray), s9 = .int .i64 j ∧ s8 = .string sb ∧ sb.data.toList = (rq.o.kids.take j).flatMap T ∧ j + k = rq.o.kids.length ∧ Below w.heap.size w wx)
      case atStart => exact ⟨0, _, rfl, rfl, by simp, by omega, unhidE HBS⟩
      case round =>
        obtain ⟨j, sb, rfl, rfl, hsb, hjk, hbx⟩ := hrel
        have hx := (unhidE HRF).below hbx
        have x0 := hx.cR
        obtain ⟨_, _, _, _, _, _, _, _, _, x9⟩ := hx.cells10 (unhidE HQ)
        obtain ⟨kk, kc, hkk, hints, hkl⟩ := hx.kids q rq (unhidE HQ)
        rw [hkk] at x9
        have hklz : (rq.o.kids.length : Int) ≤ 32768 := by omega
        by_cases hj : j < rq.o.kids.length
        · have hjz : (j : Int) < (rq.o.kids.length : Int) := by omega
          obtain ⟨k, hk⟩ : ∃ k, rq.o.kids[j]? = some k := ⟨_, List.getElem?_eq_getElem hj⟩
          obtain ⟨b, off, rfl, xk⟩ := hints.cells j k hk
          have HO := hidE ((unhidE HONE) k (List.mem_of_getElem? hk) wr hbx)
          have HBX := hidE hbx
          have HD : Hid (∀ so : ByteArray, so.data.toList = T k → (sb ++ so).data.toList = (rq.o.kids.take (j + 1)).flatMap T) := hidE (fun so hso => by
            rw [List.take_add_one, hk]
            simp [ByteArray.data_append, hsb, hso])
          have hsz : sb.size ≤ 100000000000000 := by rw [← len_data, hsb]; exact (unhidE HLEN) j
          have hsz2 : (sb.size : Int) ≤ 100000000000000 := by omega
          have HTL : Hid ((T k).length ≤ 100000000000000) := hidE (by
            have h1 := (unhidE HLEN) (j + 1)
            rw [List.take_add_one, hk] at h1
            simp at h1
            omega)
          clear hsb hbx hx hints hk hkk
          go_wp2_with (go_at_call 74; refine (unhidE HO).mono ?_; rintro e w6 ⟨⟨so, rfl, hso⟩, hb6⟩; have HSO := hidE ((unhidE HD) so hso); have hsoz : (so.size : Int) ≤ 100000000000000 := (by rw [← len_data, hso]; have := unhidE HTL; omega); have HB6 := hidE ((unhidE HBX).trans (hb6.mono (unhidE HBX).size)); clear hb6 hso)
          go_roundg (gk - 1)
          case measure => omega
          case rel => exact ⟨j + 1, _, by go_num, rfl, unhidE HSO, by omega, unhidE HB6⟩
        · have hjz : ¬ (j : Int) < (rq.o.kids.length : Int) := by omega
          obtain rfl : j = rq.o.kids.length := by omega
          rw [List.take_length] at hsb
          have HSB := hidE hsb
          have HBX := hidE hbx
          clear hsb hbx hx hints hkk
          go_wp2
          go_ret
          exact ⟨⟨_, rfl, unhidE HSB⟩, unhidE HBX⟩
end Go.Proofs.YtmnmaenmoaehlaaGreatDoor

namespace Go.Proofs.YtmnmaenmoaehlaaGreatDoor
open Go.RowKit Go.Lib

theorem Wr.cells {bA : Nat} {sc : Bool} {B bw : Nat} {l : List UInt8} {w : World} (h : Wr bA sc B bw l w) : w.cell? ⟨bw, 0, none⟩ = some (.pointer (some ⟨bA, 0, none⟩)) ∧ w.cell? ⟨bw, 1, none⟩ = some (.bool sc) := by
  rcases h with h | h
  · obtain ⟨v, hk, _⟩ := h.ex; exact ⟨cell_row _ _ 0 _ _ _ hk, cell_row _ _ 1 _ _ _ hk⟩
  · obtain ⟨v, hk, _⟩ := h.ex; exact ⟨cell_row _ _ 0 _ _ _ hk, cell_row _ _ 1 _ _ _ hk⟩

set_option maxHeartbeats 1000000 in
theorem first_plain (n : NodeM) (a : Option Addr) (cap : Nat) (bw : Nat) (w : World) (h : n.inner = -1) : Calls Tryz.prog 71 #[.pointer (some ⟨bw, 0, none⟩), .agg #[.int .i64 n.kind, .int .i64 n.space, .string n.name, .slice a n.attrs.length cap, .string n.data, .string n.system, .int .i64 n.parent, .int .i64 n.first, .int .i64 n.last, .int .i64 n.prev, .int .i64 n.next, .int .i64 n.inner]] w fun e w' => e = .returned (.int .i64 n.first) ∧ Below w.heap.size w w' := by
  have HB := hidE (below_new w (nodeB n a cap))
  unfold nodeB at HB
  rw [h] at HB ⊢
  clear h
  go_enter Tryz.func71, Tryz.ntmps71
  go_wp2
  go_ret
  exact ⟨rfl, unhidE HB⟩

theorem below_set {B : Nat} {a w : World} (h : Below B a w) {k : Nat} (hk : B ≤ k) (i : Nat) (v : Value) : Below B a (w.setCell ⟨k, i, none⟩ v) := h.setCell (p := ⟨k, i, none⟩) hk v
theorem below_dr2 {B : Nat} {a w' : World} (h : Below B a w') : Below B a w'.drew := ⟨h.os, h.tape, h.output, h.size, h.block⟩
set_option maxHeartbeats 4000000 in
theorem first_inner {W0 w : World} {bA : Nat} {sc : Bool} {B bw : Nat} {t : List UInt8} {ns : List NodeM} (hN : NodeC W0 bA ns) (hb : Below W0.heap.size W0 w) (hw : Wr bA sc B bw t w) (n : NodeM) (a : Option Addr) (cap : Nat) (c : Nat) (m : NodeM) (h : n.inner = (c : Int)) (hm : ns[c]? = some m) : Calls Tryz.prog 71 #[.pointer (some ⟨bw, 0, none⟩), .agg #[.int .i64 n.kind, .int .i64 n.space, .string n.name, .slice a n.attrs.length cap, .string n.data, .string n.system, .int .i64 n.parent, .int .i64 n.first, .int .i64 n.last, .int .i64 n.prev, .int .i64 n.next, .int .i64 n.inner]] w fun e w' => e = .returned (.int .i64 m.first) ∧ Below w.heap.size w w' := by
  have HB := hidE (below_new w (nodeB n a cap))
  have HC : Hid (∀ o, (w.alloc o).cell? ⟨bw, 0, none⟩ = some (.pointer (some ⟨bA, 0, none⟩))) := hidE (fun o => (hw.alloc o).cells.1)
  have HN := hidE (fun W (h : Below w.heap.size w W) => hN W (hb.trans (h.mono hb.size)) c m hm)
  have hne : ((c : Int) != -1) = true := by rw [bne_iff_ne]; omega
  unfold nodeB at HB
  rw [h] at HB ⊢
  have hca := (unhidE HC) (.cells #[.int .i64 n.kind, .int .i64 n.space, .string n.name, .slice a n.attrs.length cap, .string n.data, .string n.system, .int .i64 n.parent, .int .i64 n.first, .int .i64 n.last, .int .i64 n.prev, .int .i64 n.next, .int .i64 (c : Int)] 51)
  clear h hm hN hw
  go_enter Tryz.func71, Tryz.ntmps71
  go_wp2
  first
  | go_region_with (go_at_call 20; refine ((unhidE HN) _ (below_dr2 (unhidE HB))).mono ?_; rintro e w1 ⟨ao, cp, rfl, _, hb1⟩; have hk1 := (hb1.block w.heap.size (by simp)).trans (heap_alloc_new w (.cells #[.int .i64 n.kind, .int .i64 n.space, .string n.name, .slice a n.attrs.length cap, .string n.data, .string n.system, .int .i64 n.parent, .int .i64 n.first, .int .i64 n.last, .int .i64 n.prev, .int .i64 n.next, .int .i64 (c : Int)] 51)); have d0 := cell_row _ _ 0 _ _ _ hk1; have d1 := cell_row _ _ 1 _ _ _ hk1; have d2 := cell_row _ _ 2 _ _ _ hk1; have d3 := cell_row _ _ 3 _ _ _ hk1; have d4 := cell_row _ _ 4 _ _ _ hk1; have d5 := cell_row _ _ 5 _ _ _ hk1; have d6 := cell_row _ _ 6 _ _ _ hk1; have d7 := cell_row _ _ 7 _ _ _ hk1; have d8 := cell_row _ _ 8 _ _ _ hk1; have d9 := cell_row _ _ 9 _ _ _ hk1; have d10 := cell_row _ _ 10 _ _ _ hk1; have d11 := cell_row _ _ 11 _ _ _ hk1; have hfz := fun j => frozen_of_heap hk1 j; have HB1 := hidE ((unhidE HB).trans (below_dr (hb1) |>.mono (unhidE HB).size)); clear hb1 hk1)
  | fail
  all_goals go_wp2
  all_goals go_ret
  all_goals exact ⟨rfl, below_set (below_set (below_set (below_set (below_set (below_set (below_set (below_set (below_set (below_set (below_set (below_set (unhidE HB1) (Nat.le_refl _) _ _) (Nat.le_refl _) _ _) (Nat.le_refl _) _ _) (Nat.le_refl _) _ _) (Nat.le_refl _) _ _) (Nat.le_refl _) _ _) (Nat.le_refl _) _ _) (Nat.le_refl _) _ _) (Nat.le_refl _) _ _) (Nat.le_refl _) _ _) (Nat.le_refl _) _ _) (Nat.le_refl _) _ _⟩
end Go.Proofs.YtmnmaenmoaehlaaGreatDoor
