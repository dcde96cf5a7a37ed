/-
  The class, plainly: the whole document, by the document's way and by families. The document's bare, kids, one.
-/
import Derived.Test.YtmnmaenmoaehlaaGreatDoorSZbg
namespace Go.Proofs.YtmnmaenmoaehlaaGreatDoor
open Go.RowKit Go.Lib

def kidsAt (os : List OneM) (k : Nat) : List Nat := match os[k]? with | some c => c.kids | none => []
def bareD (o : OneM) (nm : List UInt8) : Bool := o.kind == 1 && (o.space == 0 && (o.name.toList == nm && o.attrs.length == 0))
def bareAt (os : List OneM) (k : Nat) (nm : List UInt8) : Bool := match os[k]? with | some c => bareD c nm | none => false
def textAt (os : List OneM) (k : Nat) : Bool := match os[k]? with | some c => c.kind == 2 && okText c.data | none => false
def titleD (os : List OneM) : List Nat → Bool
  | [] => true
  | [x] => textAt os x
  | _ => false
def headK (os : List OneM) : List Nat → Bool
  | [] => true
  | [t] => bareAt os t [116, 105, 116, 108, 101] && titleD os (kidsAt os t)
  | _ => false
def headD (os : List OneM) (k : Nat) : Bool := bareAt os k [104, 101, 97, 100] && headK os (kidsAt os k)
def bodyO (o : OneM) : Bool := o.kind == 1 && (o.space == 0 && (o.name.toList == [98, 111, 100, 121] && attrsOk o.attrs))
def bodyD (os : List OneM) (n k : Nat) : Bool := match os[k]? with | some c => bodyO c && kidsD os (fun x => oneD os n x true 3) (-1) c.kids | none => false
def pairD (os : List OneM) (n : Nat) : List Nat → Bool
  | [a, b] => headD os a && bodyD os n b
  | _ => false
def rootD (os : List OneM) (n : Nat) : List Nat → Bool
  | [h] => bareAt os h [104, 116, 109, 108] && pairD os n (kidsAt os h)
  | _ => false

theorem roleNm2 (s : ByteArray) : (roleNm s == 2) = (s.toList == [104, 116, 109, 108]) := by
  unfold roleNm
  cases h : (s.toList == [104, 116, 109, 108]) with
  | true => rfl
  | false =>
    simp only [Bool.false_eq_true, if_false]
    repeat' split
    all_goals rfl
theorem roleNm3 (s : ByteArray) : (roleNm s == 3) = (s.toList == [104, 101, 97, 100]) := by
  unfold roleNm
  cases h : (s.toList == [104, 101, 97, 100]) with
  | true => rw [show s.toList = [104, 101, 97, 100] by simpa using h]; rfl
  | false =>
    simp only [Bool.false_eq_true, if_false]
    repeat' split
    all_goals rfl
theorem roleNm4 (s : ByteArray) : (roleNm s == 4) = (s.toList == [116, 105, 116, 108, 101]) := by
  unfold roleNm
  cases h : (s.toList == [116, 105, 116, 108, 101]) with
  | true => rw [show s.toList = [116, 105, 116, 108, 101] by simpa using h]; rfl
  | false =>
    simp only [Bool.false_eq_true, if_false]
    repeat' split
    all_goals rfl
theorem roleNm5 (s : ByteArray) : (roleNm s == 5) = (s.toList == [98, 111, 100, 121]) := by
  unfold roleNm
  cases h : (s.toList == [98, 111, 100, 121]) with
  | true => rw [show s.toList = [98, 111, 100, 121] by simpa using h]; rfl
  | false =>
    simp only [Bool.false_eq_true, if_false]
    repeat' split
    all_goals rfl
theorem role_el {o : OneM} (ht : o.inner ≠ -1 → isT o.name = true) (r : Int) (hr : 2 ≤ r ∧ r ≤ 8) : (roleO o == r) = (o.kind == 1 && (o.space == 0 && roleNm o.name == r)) := by
  unfold roleO
  by_cases h0 : o.kind = 0
  · rw [h0]
    have : ((1 : Int) == r) = false := by rw [beq_eq_false_iff_ne]; omega
    simpa using this
  · by_cases h2 : o.kind = 2
    · rw [h2]
      have : ((9 : Int) == r) = false := by rw [beq_eq_false_iff_ne]; omega
      simpa using this
    · by_cases h3 : o.kind = 3
      · rw [h3]
        have : ((10 : Int) == r) = false := by rw [beq_eq_false_iff_ne]; omega
        simpa using this
      · have z : ((0 : Int) == r) = false := by rw [beq_eq_false_iff_ne]; omega
        by_cases h1 : o.kind = 1
        · rw [h1]
          by_cases hs : o.space = 0
          · rw [hs]
            by_cases hi : o.inner = -1
            · rw [hi]; rfl
            · have hn := role_tmpl (ht hi)
              have hi' : (o.inner == -1) = false := by simpa using hi
              rw [hn, z, hi']
              simpa using z
          · have hs' : (o.space == 0) = false := by simpa using hs
            rw [hs']
            simpa using z
        · have a : (o.kind == 0) = false := by simpa using h0
          have b : (o.kind == 1) = false := by simpa using h1
          have c : (o.kind == 2) = false := by simpa using h2
          have d : (o.kind == 3) = false := by simpa using h3
          rw [a, b, c, d]
          simpa using z

/-- A node of a role, and its family. -/
theorem fam_role (os : List OneM) (n k d : Nat) (hd : d ≤ 200) (r : Int) : (roleAt os k == r && famF os (n + 1) k d) = match os[k]? with
    | none => false
    | some c => (roleO c == r && ownR r c) && (kidsR r (c.kids.map (roleAt os)) && c.kids.all fun x => famF os n x (d + 1)) := by
  cases hk : os[k]? with
  | none => rw [famF, hk]; simp
  | some c =>
    rw [famF_at hk]
    have hr : roleAt os k = roleO c := by unfold roleAt; rw [hk]
    rw [hr]
    unfold famOk
    show (roleO c == r && (decide (d ≤ 200) && (ownR (roleO c) c && kidsR (roleO c) (c.kids.map (roleAt os))) && c.kids.all fun k => famF os n k (d + 1))) = _
    rw [show decide (d ≤ 200) = true by simpa using hd]
    by_cases e : roleO c = r
    · rw [e]; simp [e, Bool.and_assoc]
    · rw [show (roleO c == r) = false by simpa using e]; simp [e]

theorem fam_bare {os : List OneM} (hP : PgO os) {k : Nat} {c : OneM} (hk : os[k]? = some c) (r : Int) (nm : List UInt8) (hr : 2 ≤ r ∧ r ≤ 4) (hn : (roleNm c.name == r) = (c.name.toList == nm)) : (roleO c == r && ownR r c) = bareD c nm := by
  rw [role_el (hP.tmpl k c hk) r ⟨hr.1, by omega⟩, hn]
  have e : ownR r c = (c.attrs.length == 0) := by
    unfold ownR
    rw [show (r == 0) = false by rw [beq_eq_false_iff_ne]; omega, show (r == 9) = false by rw [beq_eq_false_iff_ne]; omega, show (r == 10) = false by rw [beq_eq_false_iff_ne]; omega, show decide (r ≤ 4) = true by simpa using hr.2]
    rfl
  rw [e]
  unfold bareD
  simp [Bool.and_assoc]
theorem fam_text {os : List OneM} (hP : PgO os) (n k d : Nat) (hd : d ≤ 200) : (roleAt os k == 9 && famF os (n + 1) k d) = textAt os k := by
  rw [fam_role os n k d hd 9]
  unfold textAt
  cases hk : os[k]? with
  | none => rfl
  | some c =>
    show ((roleO c == 9 && ownR 9 c) && _) = (c.kind == 2 && okText c.data)
    rw [role9]
    by_cases h2 : c.kind = 2
    · rw [hP.leaf k c hk (.inl h2)]
      simp [ownR, kidsR]
    · rw [show (c.kind == 2) = false by simpa using h2]; simp
theorem fam_title {os : List OneM} (hP : PgO os) (n k d : Nat) (hd : d < 200) : (roleAt os k == 4 && famF os (n + 2) k d) = (bareAt os k [116, 105, 116, 108, 101] && titleD os (kidsAt os k)) := by
  rw [fam_role os (n + 1) k d (by omega) 4]
  unfold bareAt kidsAt
  cases hk : os[k]? with
  | none => rfl
  | some c =>
    show ((roleO c == 4 && ownR 4 c) && (kidsR 4 (c.kids.map (roleAt os)) && c.kids.all fun x => famF os (n + 1) x (d + 1))) = (bareD c [116, 105, 116, 108, 101] && titleD os c.kids)
    rw [fam_bare hP hk 4 _ (by omega) (roleNm4 _)]
    congr 1
    match hc : c.kids with
    | [] => rfl
    | [x] =>
      show ((([roleAt os x] == []) || ([roleAt os x] == [9])) && (famF os (n + 1) x (d + 1) && true)) = textAt os x
      rw [← fam_text hP n x (d + 1) (by omega)]
      simp
    | x :: y :: t =>
      show (atMostP 9 (roleAt os x :: roleAt os y :: t.map (roleAt os)) && _) = false
      unfold atMostP
      simp
theorem fam_head {os : List OneM} (hP : PgO os) (n k d : Nat) (hd : d < 199) : (roleAt os k == 3 && famF os (n + 3) k d) = headD os k := by
  rw [fam_role os (n + 2) k d (by omega) 3]
  unfold headD bareAt kidsAt
  cases hk : os[k]? with
  | none => rfl
  | some c =>
    show ((roleO c == 3 && ownR 3 c) && (kidsR 3 (c.kids.map (roleAt os)) && c.kids.all fun x => famF os (n + 2) x (d + 1))) = (bareD c [104, 101, 97, 100] && headK os c.kids)
    rw [fam_bare hP hk 3 _ (by omega) (roleNm3 _)]
    congr 1
    match hc : c.kids with
    | [] => rfl
    | [x] =>
      show ((([roleAt os x] == []) || ([roleAt os x] == [4])) && (famF os (n + 2) x (d + 1) && true)) = (bareAt os x [116, 105, 116, 108, 101] && titleD os (kidsAt os x))
      rw [← fam_title hP n x (d + 1) (by omega)]
      simp
    | x :: y :: t =>
      show (atMostP 4 (roleAt os x :: roleAt os y :: t.map (roleAt os)) && _) = false
      unfold atMostP
      simp
theorem fam_body {os : List OneM} (hP : PgO os) (n k : Nat) : (roleAt os k == 5 && famF os (n + 1) k 2) = bodyD os n k := by
  rw [fam_role os n k 2 (by omega) 5]
  unfold bodyD
  cases hk : os[k]? with
  | none => rfl
  | some c =>
    show ((roleO c == 5 && ownR 5 c) && (kidsR 5 (c.kids.map (roleAt os)) && c.kids.all fun x => famF os n x 3)) = (bodyO c && kidsD os (fun x => oneD os n x true 3) (-1) c.kids)
    rw [role_el (hP.tmpl k c hk) 5 (by omega), roleNm5]
    rw [kids_fam os (allowed true) (fun x => oneD os n x true 3) (fun x => famF os n x 3) c.kids (-1) 0 (fun x _ => one_fam hP n x true 3) rfl]
    have e : ownR 5 c = attrsOk c.attrs := rfl
    rw [e]
    unfold bodyO
    simp [Bool.and_assoc, kidsR, allowed]

theorem in_fam {os : List OneM} (hP : PgO os) (n : Nat) : rootD os (n + 2) (kidsAt os 0) = famF os (n + 5) 0 0 := by
  obtain ⟨o, ho, hk, ha⟩ := hP.top
  rw [famF_at ho]
  have hka : kidsAt os 0 = o.kids := by unfold kidsAt; rw [ho]
  rw [hka]
  unfold famOk
  have e : roleO o = 1 := by unfold roleO; rw [hk]; rfl
  rw [e, show ownR 1 o = true by simp [ownR, ha]]
  match hc : o.kids with
  | [] => rfl
  | [h] =>
    show (bareAt os h [104, 116, 109, 108] && pairD os (n + 2) (kidsAt os h)) = ((decide (0 ≤ 200) && (true && ([roleAt os h] == [2]))) && (famF os (n + 4) h 1 && true))
    have e2 : ((decide (0 ≤ 200) && (true && ([roleAt os h] == [2]))) && (famF os (n + 4) h 1 && true)) = (roleAt os h == 2 && famF os (n + 4) h 1) := by simp
    rw [e2, fam_role os (n + 3) h 1 (by omega) 2]
    unfold bareAt kidsAt
    cases hh : os[h]? with
    | none => rfl
    | some c =>
      show (bareD c [104, 116, 109, 108] && pairD os (n + 2) c.kids) = ((roleO c == 2 && ownR 2 c) && (kidsR 2 (c.kids.map (roleAt os)) && c.kids.all fun x => famF os (n + 3) x 2))
      rw [fam_bare hP hh 2 _ (by omega) (roleNm2 _)]
      congr 1
      match hck : c.kids with
      | [] => rfl
      | [x] =>
        show false = (([roleAt os x] == [3, 5]) && _)
        simp
      | [x, y] =>
        show (headD os x && bodyD os (n + 2) y) = (([roleAt os x, roleAt os y] == [3, 5]) && (famF os (n + 3) x 2 && (famF os (n + 3) y 2 && true)))
        rw [← fam_head hP n x 2 (by omega), ← fam_body hP (n + 2) y]
        have e3 : ([roleAt os x, roleAt os y] == [3, 5]) = (roleAt os x == 3 && roleAt os y == 5) := by simp
        rw [e3]
        cases (roleAt os x == 3) <;> cases (roleAt os y == 5) <;> cases famF os (n + 3) x 2 <;> cases famF os (n + 3) y 2 <;> rfl
      | x :: y :: z :: t =>
        show false = (((roleAt os x :: roleAt os y :: roleAt os z :: t.map (roleAt os)) == [3, 5]) && _)
        simp
  | x :: y :: t =>
    show false = ((decide (0 ≤ 200) && (true && ((roleAt os x :: roleAt os y :: t.map (roleAt os)) == [2]))) && _)
    simp
end Go.Proofs.YtmnmaenmoaehlaaGreatDoor

namespace Go.Proofs.YtmnmaenmoaehlaaGreatDoor
open Go.RowKit Go.Lib

def nodeR (r : OneR) (aa : Option Addr) (ca : Nat) (ak : Option Addr) (ck : Nat) : Obj := .cells #[.int .i64 r.o.kind, .int .i64 r.o.space, .string r.o.name, .slice aa r.o.attrs.length ca, .string r.o.data, .string r.o.system, .int .i64 r.o.inner, .int .i64 r.o.host, .int .i64 r.o.up, .slice ak r.o.kids.length ck] 58

set_option maxHeartbeats 4000000 in
theorem xbare_any {w : World} {base bR g cap : Nat} {rs : List OneR} (h : Rf w base bR g cap rs) (i : Nat) (r : OneR) (hi : rs[i]? = some r) (nm : ByteArray) :
    Calls Tryz.prog 27 #[.pointer (some ⟨bR, 0, none⟩), .int .i64 i, .string nm] w fun e w' => e = .returned (.bool (bareD r.o nm.toList)) ∧ Below w.heap.size w w' := by
  obtain ⟨c0, c1, c2, c3, c4, c5, c6, c7, c8, c9⟩ := h.cells10 hi
  obtain ⟨aa, ca, hav, _, _, _⟩ := h.attrs i r hi
  obtain ⟨ak, ck, hkv, _, _⟩ := h.kids i r hi
  rw [hav] at c3
  rw [hkv] at c9
  have hR := h.cR
  have hgl := h.lt.2
  have hRl := h.lt.1
  have hm := h.most
  have hil : i < rs.length := (List.getElem?_eq_some_iff.1 hi).1
  have hiz : (i : Int) < (rs.length : Int) := by omega
  have hmz : (rs.length : Int) ≤ 32768 := by omega
  have HB0 := hide (below_new w (nodeR r aa ca ak ck))
  unfold nodeR at HB0
  clear h hi hav hkv hm
  unfold bareD
  cases h1 : (r.o.kind == 1) with
  | false =>
    go_enter Tryz.func27, Tryz.ntmps27
    go_wp2
    go_ret
    exact ⟨rfl, unhide HB0⟩
  | true =>
    cases h2 : (r.o.space == 0) with
    | false =>
      go_enter Tryz.func27, Tryz.ntmps27
      go_wp2
      go_ret
      exact ⟨rfl, unhide HB0⟩
    | true =>
      cases h3 : (r.o.name.toList == nm.toList) with
      | false =>
        go_enter Tryz.func27, Tryz.ntmps27
        go_wp2
        go_ret
        exact ⟨rfl, unhide HB0⟩
      | true =>
        have he : ((r.o.attrs.length : Int) == 0) = (r.o.attrs.length == 0) := by cases r.o.attrs.length <;> rfl
        rw [show (true && (true && (true && (r.o.attrs.length == 0)))) = ((r.o.attrs.length : Int) == 0) by rw [he]; rfl]
        clear he
        go_enter Tryz.func27, Tryz.ntmps27
        go_wp2
        go_ret
        exact ⟨rfl, unhide HB0⟩
end Go.Proofs.YtmnmaenmoaehlaaGreatDoor
