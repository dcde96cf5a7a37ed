/-
  The document's one. The document's kids and one, by fuel, at any tree.
-/
import Derived.Test.YtmnmaenmoaehlaaGreatDoorSZbi
import Derived.Test.YtmnmaenmoaehlaaGreatDoorSZbg
namespace Go.Proofs.YtmnmaenmoaehlaaGreatDoor
open Go.RowKit Go.Lib

def oneV (o : OneM) (block : Bool) (d : Nat) (kv : Bool → Bool) : Bool :=
      if d > 200 then false
      else if o.kind = 2 then okText o.data
      else if o.kind = 3 then okComD o.data.data.toList
      else if o.kind = 1 then
        (if o.space = 0 ∧ attrsOk o.attrs = true then
          (if roleNm o.name = 8 then kv false
          else if roleNm o.name = 7 then block && kv false
          else if roleNm o.name = 6 then block && kv true
          else false)
        else false)
      else false
theorem oneD_V {os : List OneM} {i : Nat} {o : OneM} (h : os[i]? = some o) (n : Nat) (block : Bool) (d : Nat) : oneD os (n + 1) i block d = oneV o block d (fun b => kidsD os (fun k => oneD os n k b (d + 1)) (-1) o.kids) := oneD_at h n block d
theorem oneV_deep {o : OneM} {block : Bool} {d : Nat} {kv : Bool → Bool} (h : d > 200) : oneV o block d kv = false := by unfold oneV; rw [if_pos h]
theorem oneV_text {o : OneM} {block : Bool} {d : Nat} {kv : Bool → Bool} (h : ¬ d > 200) (hk : o.kind = 2) : oneV o block d kv = okText o.data := by unfold oneV; rw [if_neg h, if_pos hk]
theorem oneV_com {o : OneM} {block : Bool} {d : Nat} {kv : Bool → Bool} (h : ¬ d > 200) (hk : o.kind = 3) : oneV o block d kv = okComD o.data.data.toList := by unfold oneV; rw [if_neg h, if_neg (by omega), if_pos hk]
theorem oneV_none {o : OneM} {block : Bool} {d : Nat} {kv : Bool → Bool} (h : ¬ d > 200) (h2 : o.kind ≠ 2) (h3 : o.kind ≠ 3) (h1 : o.kind ≠ 1) : oneV o block d kv = false := by unfold oneV; rw [if_neg h, if_neg h2, if_neg h3, if_neg h1]
theorem oneV_el {o : OneM} {block : Bool} {d : Nat} {kv : Bool → Bool} (h : ¬ d > 200) (hk : o.kind = 1) : oneV o block d kv = (if o.space = 0 ∧ attrsOk o.attrs = true then
          (if roleNm o.name = 8 then kv false
          else if roleNm o.name = 7 then block && kv false
          else if roleNm o.name = 6 then block && kv true
          else false)
        else false) := by unfold oneV; rw [if_neg h, if_neg (by omega), if_neg (by omega), if_pos hk]
theorem role_none {s : ByteArray} (q8 : (s.toList == [115, 112, 97, 110]) = false) (q7 : (s.toList == [112]) = false) (qa : (s.toList == [100, 105, 118]) = false) (qb : (s.toList == [115, 101, 99, 116, 105, 111, 110]) = false) (qc : (s.toList == [97, 114, 116, 105, 99, 108, 101]) = false) (qd : (s.toList == [109, 97, 105, 110]) = false) (qe : (s.toList == [97, 115, 105, 100, 101]) = false) : roleNm s ≠ 8 ∧ roleNm s ≠ 7 ∧ roleNm s ≠ 6 := by
  unfold roleNm
  rw [q8, q7, qa, qb, qc, qd, qe]
  repeat' split
  all_goals simp_all

set_option maxHeartbeats 16000000 in
set_option maxRecDepth 100000 in
theorem xone_in {w : World} {base bR g cap : Nat} {rs : List OneR} (h : Rf w base bR g cap rs) (i : Nat) (r : OneR) (hi : rs[i]? = some r) (block : Bool) (d : Nat) (hd : d ≤ 1000) (hsh : ShortO r.o) (hfew : r.o.attrs.length ≤ 1024) (kv : Bool → Bool)
    (hkids : d ≤ 200 → ∀ b W, Below w.heap.size w W → Calls Tryz.prog 30 #[.pointer (some ⟨bR, 0, none⟩), .int .i64 i, .bool b, .int .i64 ((d : Nat) + 1 : Int)] W fun e w' => e = .returned (.bool (kv b)) ∧ Below W.heap.size W w') :
    Calls Tryz.prog 63 #[.pointer (some ⟨bR, 0, none⟩), .int .i64 i, .bool block, .int .i64 (d : Nat)] w fun e w' => e = .returned (.bool (oneV r.o block d kv)) ∧ Below w.heap.size w w' := by
  obtain ⟨c0, c1, c2, c3, c4, c5, c6, c7, c8, c9⟩ := h.cells10 hi
  obtain ⟨aa, ca, hav, hain, _, _⟩ := h.attrs i r hi
  obtain ⟨ak, ck, hkv, _, _⟩ := h.kids i r hi
  rw [hav] at c3
  rw [hkv] at c9
  have hR := h.cR
  have hgl := h.lt.2
  have hRl := h.lt.1
  have hm := h.most
  have hil : i < rs.length := (List.getElem?_eq_some_iff.1 hi).1
  have hiz : (i : Int) < (rs.length : Int) := by omega
  have hmz : (rs.length : Int) ≤ 32768 := by omega
  have HB0 := hide (below_new w (nodeR r aa ca ak ck))
  have HA := hide (fun W (hb : Below w.heap.size w W) => xattrs_any W aa ca r.o.attrs (hain.below hb) hfew (fun x hx => ⟨by have := hsh.attrs x hx; omega, by have := hsh.attrs x hx; omega⟩))
  have HP := hide (fun W => xplain_any r.o.data W (by have := hsh.data; omega))
  have HCM := hide (fun W => xcomment_any r.o.data W (by have := hsh.data; omega))
  unfold nodeR at HB0
  have HK := hide hkids
  obtain ⟨res, hres⟩ : ∃ x, oneV r.o block d kv = x := ⟨_, rfl⟩
  rw [hres]
  clear h hi hav hkv hm hain hsh hfew hkids
  by_cases hd2 : d > 200
  · have hdz : (200 : Int) < (d : Int) := by omega
    rw [oneV_deep hd2] at hres
    have HR := hide hres
    clear hres
    go_enter Tryz.func63, Tryz.ntmps63
    go_wp2
    go_ret
    exact ⟨by rw [← unhide HR]; rfl, unhide HB0⟩
  have hdz : ¬ (200 : Int) < (d : Int) := by omega
  by_cases h2 : r.o.kind = 2
  · rw [oneV_text hd2 h2] at hres
    rw [h2] at c0 HB0
    unfold okText at hres
    cases he : r.o.data.toList.isEmpty
    · rw [he] at hres
      have HR := hide hres
      clear hres
      go_enter Tryz.func63, Tryz.ntmps63
      go_wp2_with (go_at_call 61; refine ((unhide HP) _).mono ?_; rintro e w2 ⟨rfl, hb⟩; have HB2 := hide ((unhide HB0).trans (hb.mono (unhide HB0).size)); clear hb)
      go_ret
      exact ⟨by rw [← unhide HR]; rfl, unhide HB2⟩
    · rw [he] at hres
      have HR := hide hres
      clear hres
      go_enter Tryz.func63, Tryz.ntmps63
      go_wp2
      go_ret
      exact ⟨by rw [← unhide HR]; rfl, unhide HB0⟩
  have g2 : (r.o.kind == 2) = false := by simpa using h2
  by_cases h3 : r.o.kind = 3
  · rw [oneV_com hd2 h3] at hres
    rw [hres] at HCM
    rw [h3] at c0 HB0
    clear hres
    go_enter Tryz.func63, Tryz.ntmps63
    go_wp2_with (go_at_call 87; refine ((unhide HCM) _).mono ?_; rintro e w2 ⟨rfl, hb⟩; have HB2 := hide ((unhide HB0).trans (hb.mono (unhide HB0).size)); clear hb)
    go_ret
    exact ⟨rfl, unhide HB2⟩
  have g3 : (r.o.kind == 3) = false := by simpa using h3
  by_cases h1 : r.o.kind = 1
  · rw [oneV_el hd2 h1] at hres
    rw [h1] at c0 HB0
    have hsum : (d : Int) + 1 ≤ 300 := by omega
    have HK := hide (unhide HK (by omega))
    by_cases hs : r.o.space = 0
    · rw [hs] at c1 HB0
      cases ha : attrsOk r.o.attrs with
      | false =>
        rw [if_neg (fun hh => by rw [ha] at hh; exact absurd hh.2 (by decide))] at hres
        rw [ha] at HA
        have HR := hide hres
        clear hres g2 g3
        go_enter Tryz.func63, Tryz.ntmps63
        go_wp2_with (go_at_call 29; refine ((unhide HA) _ (unhide HB0)).mono ?_; rintro e w2 ⟨rfl, hb⟩; have HB2 := hide ((unhide HB0).trans (hb.mono (unhide HB0).size)); clear hb)
        go_ret
        exact ⟨by rw [← unhide HR]; rfl, unhide HB2⟩
      | true =>
        rw [if_pos ⟨hs, ha⟩] at hres
        rw [ha] at HA
        clear g2 g3
        cases q8 : (r.o.name.toList == [115, 112, 97, 110]) with
        | true =>
          have hr : roleNm r.o.name = 8 := by
            have e : r.o.name.toList = [115, 112, 97, 110] := by simpa using q8
            unfold roleNm
            rw [e]
            rfl
          rw [hr] at hres
          have HR : Hid (kv false = res) := hide hres
          clear hres hr
          go_enter Tryz.func63, Tryz.ntmps63
          go_wp2_with (first | (go_at_call 29; refine ((unhide HA) _ (unhide HB0)).mono ?_; rintro e w2 ⟨rfl, hb⟩; have k2 := cell_row _ _ 2 _ _ _ ((hb.block w.heap.size (by simp)).trans (heap_alloc_new w _)); have HB2 := hide ((unhide HB0).trans (hb.mono (unhide HB0).size)); clear hb) | (go_at_call 30; refine ((unhide HK) false _ (unhide HB2)).mono ?_; rintro e w3 ⟨rfl, hb⟩; have HB3 := hide ((unhide HB2).trans (hb.mono (unhide HB2).size)); clear hb))
          go_ret
          exact ⟨by rw [← unhide HR]; rfl, unhide HB3⟩
        | false =>
          cases q7 : (r.o.name.toList == [112]) with
          | true =>
            have hr : roleNm r.o.name = 7 := by
              have e : r.o.name.toList = [112] := by simpa using q7
              unfold roleNm
              rw [e]
              rfl
            rw [hr] at hres
            cases hbl : block with
            | false =>
              rw [hbl] at hres
              have HR : Hid (false = res) := hide hres
              clear hres hr
              go_enter Tryz.func63, Tryz.ntmps63
              go_wp2_with (first | (go_at_call 29; refine ((unhide HA) _ (unhide HB0)).mono ?_; rintro e w2 ⟨rfl, hb⟩; have k2 := cell_row _ _ 2 _ _ _ ((hb.block w.heap.size (by simp)).trans (heap_alloc_new w _)); have HB2 := hide ((unhide HB0).trans (hb.mono (unhide HB0).size)); clear hb))
              go_ret
              exact ⟨by rw [← unhide HR]; rfl, unhide HB2⟩
            | true =>
              rw [hbl] at hres
              have HR : Hid (kv false = res) := hide hres
              clear hres hr
              go_enter Tryz.func63, Tryz.ntmps63
              go_wp2_with (first | (go_at_call 29; refine ((unhide HA) _ (unhide HB0)).mono ?_; rintro e w2 ⟨rfl, hb⟩; have k2 := cell_row _ _ 2 _ _ _ ((hb.block w.heap.size (by simp)).trans (heap_alloc_new w _)); have HB2 := hide ((unhide HB0).trans (hb.mono (unhide HB0).size)); clear hb) | (go_at_call 30; refine ((unhide HK) false _ (unhide HB2)).mono ?_; rintro e w3 ⟨rfl, hb⟩; have HB3 := hide ((unhide HB2).trans (hb.mono (unhide HB2).size)); clear hb))
              go_ret
              exact ⟨by rw [← unhide HR]; rfl, unhide HB3⟩
          | false =>
            cases qa : (r.o.name.toList == [100, 105, 118]) with
            | true =>
              have hr : roleNm r.o.name = 6 := by
                have e : r.o.name.toList = [100, 105, 118] := by simpa using qa
                unfold roleNm
                rw [e]
                rfl
              rw [hr] at hres
              cases hbl : block with
              | false =>
                rw [hbl] at hres
                have HR : Hid (false = res) := hide hres
                clear hres hr
                go_enter Tryz.func63, Tryz.ntmps63
                go_wp2_with (first | (go_at_call 29; refine ((unhide HA) _ (unhide HB0)).mono ?_; rintro e w2 ⟨rfl, hb⟩; have k2 := cell_row _ _ 2 _ _ _ ((hb.block w.heap.size (by simp)).trans (heap_alloc_new w _)); have HB2 := hide ((unhide HB0).trans (hb.mono (unhide HB0).size)); clear hb))
                go_ret
                exact ⟨by rw [← unhide HR]; rfl, unhide HB2⟩
              | true =>
                rw [hbl] at hres
                have HR : Hid (kv true = res) := hide hres
                clear hres hr
                go_enter Tryz.func63, Tryz.ntmps63
                go_wp2_with (first | (go_at_call 29; refine ((unhide HA) _ (unhide HB0)).mono ?_; rintro e w2 ⟨rfl, hb⟩; have k2 := cell_row _ _ 2 _ _ _ ((hb.block w.heap.size (by simp)).trans (heap_alloc_new w _)); have HB2 := hide ((unhide HB0).trans (hb.mono (unhide HB0).size)); clear hb) | (go_at_call 30; refine ((unhide HK) true _ (unhide HB2)).mono ?_; rintro e w3 ⟨rfl, hb⟩; have HB3 := hide ((unhide HB2).trans (hb.mono (unhide HB2).size)); clear hb))
                go_ret
                exact ⟨by rw [← unhide HR]; rfl, unhide HB3⟩
            | false =>
              cases qb : (r.o.name.toList == [115, 101, 99, 116, 105, 111, 110]) with
              | true =>
                have hr : roleNm r.o.name = 6 := by
                  have e : r.o.name.toList = [115, 101, 99, 116, 105, 111, 110] := by simpa using qb
                  unfold roleNm
                  rw [e]
                  rfl
                rw [hr] at hres
                cases hbl : block with
                | false =>
                  rw [hbl] at hres
                  have HR : Hid (false = res) := hide hres
                  clear hres hr
                  go_enter Tryz.func63, Tryz.ntmps63
                  go_wp2_with (first | (go_at_call 29; refine ((unhide HA) _ (unhide HB0)).mono ?_; rintro e w2 ⟨rfl, hb⟩; have k2 := cell_row _ _ 2 _ _ _ ((hb.block w.heap.size (by simp)).trans (heap_alloc_new w _)); have HB2 := hide ((unhide HB0).trans (hb.mono (unhide HB0).size)); clear hb))
                  go_ret
                  exact ⟨by rw [← unhide HR]; rfl, unhide HB2⟩
                | true =>
                  rw [hbl] at hres
                  have HR : Hid (kv true = res) := hide hres
                  clear hres hr
                  go_enter Tryz.func63, Tryz.ntmps63
                  go_wp2_with (first | (go_at_call 29; refine ((unhide HA) _ (unhide HB0)).mono ?_; rintro e w2 ⟨rfl, hb⟩; have k2 := cell_row _ _ 2 _ _ _ ((hb.block w.heap.size (by simp)).trans (heap_alloc_new w _)); have HB2 := hide ((unhide HB0).trans (hb.mono (unhide HB0).size)); clear hb) | (go_at_call 30; refine ((unhide HK) true _ (unhide HB2)).mono ?_; rintro e w3 ⟨rfl, hb⟩; have HB3 := hide ((unhide HB2).trans (hb.mono (unhide HB2).size)); clear hb))
                  go_ret
                  exact ⟨by rw [← unhide HR]; rfl, unhide HB3⟩
              | false =>
                cases qc : (r.o.name.toList == [97, 114, 116, 105, 99, 108, 101]) with
                | true =>
                  have hr : roleNm r.o.name = 6 := by
                    have e : r.o.name.toList = [97, 114, 116, 105, 99, 108, 101] := by simpa using qc
                    unfold roleNm
                    rw [e]
                    rfl
                  rw [hr] at hres
                  cases hbl : block with
                  | false =>
                    rw [hbl] at hres
                    have HR : Hid (false = res) := hide hres
                    clear hres hr
                    go_enter Tryz.func63, Tryz.ntmps63
                    go_wp2_with (first | (go_at_call 29; refine ((unhide HA) _ (unhide HB0)).mono ?_; rintro e w2 ⟨rfl, hb⟩; have k2 := cell_row _ _ 2 _ _ _ ((hb.block w.heap.size (by simp)).trans (heap_alloc_new w _)); have HB2 := hide ((unhide HB0).trans (hb.mono (unhide HB0).size)); clear hb))
                    go_ret
                    exact ⟨by rw [← unhide HR]; rfl, unhide HB2⟩
                  | true =>
                    rw [hbl] at hres
                    have HR : Hid (kv true = res) := hide hres
                    clear hres hr
                    go_enter Tryz.func63, Tryz.ntmps63
                    go_wp2_with (first | (go_at_call 29; refine ((unhide HA) _ (unhide HB0)).mono ?_; rintro e w2 ⟨rfl, hb⟩; have k2 := cell_row _ _ 2 _ _ _ ((hb.block w.heap.size (by simp)).trans (heap_alloc_new w _)); have HB2 := hide ((unhide HB0).trans (hb.mono (unhide HB0).size)); clear hb) | (go_at_call 30; refine ((unhide HK) true _ (unhide HB2)).mono ?_; rintro e w3 ⟨rfl, hb⟩; have HB3 := hide ((unhide HB2).trans (hb.mono (unhide HB2).size)); clear hb))
                    go_ret
                    exact ⟨by rw [← unhide HR]; rfl, unhide HB3⟩
                | false =>
                  cases qd : (r.o.name.toList == [109, 97, 105, 110]) with
                  | true =>
                    have hr : roleNm r.o.name = 6 := by
                      have e : r.o.name.toList = [109, 97, 105, 110] := by simpa using qd
                      unfold roleNm
                      rw [e]
                      rfl
                    rw [hr] at hres
                    cases hbl : block with
                    | false =>
                      rw [hbl] at hres
                      have HR : Hid (false = res) := hide hres
                      clear hres hr
                      go_enter Tryz.func63, Tryz.ntmps63
                      go_wp2_with (first | (go_at_call 29; refine ((unhide HA) _ (unhide HB0)).mono ?_; rintro e w2 ⟨rfl, hb⟩; have k2 := cell_row _ _ 2 _ _ _ ((hb.block w.heap.size (by simp)).trans (heap_alloc_new w _)); have HB2 := hide ((unhide HB0).trans (hb.mono (unhide HB0).size)); clear hb))
                      go_ret
                      exact ⟨by rw [← unhide HR]; rfl, unhide HB2⟩
                    | true =>
                      rw [hbl] at hres
                      have HR : Hid (kv true = res) := hide hres
                      clear hres hr
                      go_enter Tryz.func63, Tryz.ntmps63
                      go_wp2_with (first | (go_at_call 29; refine ((unhide HA) _ (unhide HB0)).mono ?_; rintro e w2 ⟨rfl, hb⟩; have k2 := cell_row _ _ 2 _ _ _ ((hb.block w.heap.size (by simp)).trans (heap_alloc_new w _)); have HB2 := hide ((unhide HB0).trans (hb.mono (unhide HB0).size)); clear hb) | (go_at_call 30; refine ((unhide HK) true _ (unhide HB2)).mono ?_; rintro e w3 ⟨rfl, hb⟩; have HB3 := hide ((unhide HB2).trans (hb.mono (unhide HB2).size)); clear hb))
                      go_ret
                      exact ⟨by rw [← unhide HR]; rfl, unhide HB3⟩
                  | false =>
                    cases qe : (r.o.name.toList == [97, 115, 105, 100, 101]) with
                    | true =>
                      have hr : roleNm r.o.name = 6 := by
                        have e : r.o.name.toList = [97, 115, 105, 100, 101] := by simpa using qe
                        unfold roleNm
                        rw [e]
                        rfl
                      rw [hr] at hres
                      cases hbl : block with
                      | false =>
                        rw [hbl] at hres
                        have HR : Hid (false = res) := hide hres
                        clear hres hr
                        go_enter Tryz.func63, Tryz.ntmps63
                        go_wp2_with (first | (go_at_call 29; refine ((unhide HA) _ (unhide HB0)).mono ?_; rintro e w2 ⟨rfl, hb⟩; have k2 := cell_row _ _ 2 _ _ _ ((hb.block w.heap.size (by simp)).trans (heap_alloc_new w _)); have HB2 := hide ((unhide HB0).trans (hb.mono (unhide HB0).size)); clear hb))
                        go_ret
                        exact ⟨by rw [← unhide HR]; rfl, unhide HB2⟩
                      | true =>
                        rw [hbl] at hres
                        have HR : Hid (kv true = res) := hide hres
                        clear hres hr
                        go_enter Tryz.func63, Tryz.ntmps63
                        go_wp2_with (first | (go_at_call 29; refine ((unhide HA) _ (unhide HB0)).mono ?_; rintro e w2 ⟨rfl, hb⟩; have k2 := cell_row _ _ 2 _ _ _ ((hb.block w.heap.size (by simp)).trans (heap_alloc_new w _)); have HB2 := hide ((unhide HB0).trans (hb.mono (unhide HB0).size)); clear hb) | (go_at_call 30; refine ((unhide HK) true _ (unhide HB2)).mono ?_; rintro e w3 ⟨rfl, hb⟩; have HB3 := hide ((unhide HB2).trans (hb.mono (unhide HB2).size)); clear hb))
                        go_ret
                        exact ⟨by rw [← unhide HR]; rfl, unhide HB3⟩
                    | false =>
                      obtain ⟨r8, r7, r6⟩ := role_none q8 q7 qa qb qc qd qe
                      rw [if_neg r8, if_neg r7, if_neg r6] at hres
                      have HR := hide hres
                      clear hres r8 r7 r6
                      go_enter Tryz.func63, Tryz.ntmps63
                      go_wp2_with (first | (go_at_call 29; refine ((unhide HA) _ (unhide HB0)).mono ?_; rintro e w2 ⟨rfl, hb⟩; have k2 := cell_row _ _ 2 _ _ _ ((hb.block w.heap.size (by simp)).trans (heap_alloc_new w _)); have HB2 := hide ((unhide HB0).trans (hb.mono (unhide HB0).size)); clear hb))
                      go_ret
                      exact ⟨by rw [← unhide HR]; rfl, unhide HB2⟩
    · rw [if_neg (fun hh => hs hh.1)] at hres
      have gs : (r.o.space != 0) = true := by simpa using hs
      have HR := hide hres
      clear hres g2 g3
      go_enter Tryz.func63, Tryz.ntmps63
      go_wp2
      go_ret
      exact ⟨by rw [← unhide HR]; rfl, unhide HB0⟩
  · rw [oneV_none hd2 h2 h3 h1] at hres
    have g1 : (r.o.kind == 1) = false := by simpa using h1
    have HR := hide hres
    clear hres
    go_enter Tryz.func63, Tryz.ntmps63
    go_wp2
    go_ret
    exact ⟨by rw [← unhide HR]; rfl, unhide HB0⟩
end Go.Proofs.YtmnmaenmoaehlaaGreatDoor

namespace Go.Proofs.YtmnmaenmoaehlaaGreatDoor
open Go.RowKit Go.Lib

theorem kid_down {ns : List NodeM} {os : List OneM} (hs : Sim ns os) {i : Nat} {o : OneM} (ho : os[i]? = some o) {path : List Nat} (hp : PathOf (upO os) i path) {k : Nat} (hk : k ∈ o.kids) : ∃ c, os[k]? = some c ∧ PathOf (upO os) k (k :: path) := by
  obtain ⟨c, hc, hup⟩ := hs.down i o k ho hk
  refine ⟨c, hc, rfl, i, ?_, hp⟩
  unfold upO
  rw [hc]
  show some (if c.up = -1 then c.host else c.up) = some (i : Int)
  rw [if_neg (by rw [hup]; omega), hup]

theorem xone_all {W0 : World} {base bR g cap : Nat} {rs : List OneR} (h : Rf W0 base bR g cap rs) {ns : List NodeM} {os : List OneM} (ho : osOf rs = os) (hs : Sim ns os) (hE : Ext os) :
    ∀ (f i : Nat) (path : List Nat) (o : OneM) (block : Bool) (d : Nat), PathOf (upO os) i path → os.length + 1 ≤ path.length + f → os[i]? = some o → d ≤ 201 → ∀ W, Below W0.heap.size W0 W →
      Calls Tryz.prog 63 #[.pointer (some ⟨bR, 0, none⟩), .int .i64 i, .bool block, .int .i64 (d : Nat)] W fun e w' => e = .returned (.bool (oneD os f i block d)) ∧ Below W.heap.size W w' := by
  intro f
  induction f with
  | zero =>
    intro i path o block d hp hf _ _ _ _
    have := nodup_few os.length path (path_nodup hp) (path_in hp)
    omega
  | succ f ih =>
    intro i path o block d hp hf hi hd W hW
    have hRW := h.below hW
    obtain ⟨r, hr, hro⟩ := rs_of (by rw [ho]; exact hi)
    have hok := hE i o hi
    rw [oneD_V hi]
    have := xone_in hRW i r hr block d (by omega) (by rw [hro]; exact hok.short) (by rw [hro]; exact hok.few) (fun b => kidsD os (fun k => oneD os f k b (d + 1)) (-1) o.kids) (fun hd2 b W2 hW2 => by
      have hR2 := h.below (hW.trans (hW2.mono hW.size))
      have hk := xkids_in hR2 i r hr b (d + 1) (fun k => oneD os f k b (d + 1)) (fun k hk => by
        obtain ⟨c, hc, _⟩ := kid_down hs hi hp (by rw [← hro]; exact hk)
        obtain ⟨rk, hrk, _⟩ := rs_of (by rw [ho]; exact hc)
        exact ⟨rk, hrk⟩) (fun k hk W3 hW3 => by
        obtain ⟨c, hc, hpk⟩ := kid_down hs hi hp (by rw [← hro]; exact hk)
        exact ih k (k :: path) c b (d + 1) hpk (by simp only [List.length_cons]; omega) hc (by omega) W3 ((hW.trans (hW2.mono hW.size)).trans (hW3.mono (hW.trans (hW2.mono hW.size)).size)))
      rw [ho, hro] at hk
      have e : ((d + 1 : Nat) : Int) = (d : Int) + 1 := by omega
      rw [e] at hk
      exact hk)
    rw [hro] at this
    exact this
theorem xkids_all {W0 : World} {base bR g cap : Nat} {rs : List OneR} (h : Rf W0 base bR g cap rs) {ns : List NodeM} {os : List OneM} (ho : osOf rs = os) (hs : Sim ns os) (hE : Ext os) (f i : Nat) (path : List Nat) (o : OneM) (block : Bool) (d : Nat) (hp : PathOf (upO os) i path) (hf : os.length + 1 ≤ path.length + 1 + f) (hi : os[i]? = some o) (hd : d ≤ 201) (W : World) (hW : Below W0.heap.size W0 W) :
    Calls Tryz.prog 30 #[.pointer (some ⟨bR, 0, none⟩), .int .i64 i, .bool block, .int .i64 (d : Nat)] W fun e w' => e = .returned (.bool (kidsD os (fun k => oneD os f k block d) (-1) o.kids)) ∧ Below W.heap.size W w' := by
  obtain ⟨r, hr, hro⟩ := rs_of (by rw [ho]; exact hi)
  have hk := xkids_in (h.below hW) i r hr block d (fun k => oneD os f k block d) (fun k hk => by
    obtain ⟨c, hc, _⟩ := kid_down hs hi hp (by rw [← hro]; exact hk)
    obtain ⟨rk, hrk, _⟩ := rs_of (by rw [ho]; exact hc)
    exact ⟨rk, hrk⟩) (fun k hk W3 hW3 => by
    obtain ⟨c, hc, hpk⟩ := kid_down hs hi hp (by rw [← hro]; exact hk)
    exact xone_all h ho hs hE f k (k :: path) c block d hpk (by simp only [List.length_cons]; omega) hc hd W3 (hW.trans (hW3.mono hW.size)))
  rw [ho, hro] at hk
  exact hk
end Go.Proofs.YtmnmaenmoaehlaaGreatDoor
