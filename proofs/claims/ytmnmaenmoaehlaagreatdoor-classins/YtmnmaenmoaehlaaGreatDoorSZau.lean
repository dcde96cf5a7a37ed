/-
  Rows of roles: slices.Index, Contains, Equal at them. The rules that children keep: closures over roles. A row of nodes as values; their roles.
-/
import Derived.Test.YtmnmaenmoaehlaaGreatDoorSZat
import Derived.Test.YtmnmaenmoaehlaaGreatDoorSZad
namespace Go.Proofs.YtmnmaenmoaehlaaGreatDoor
open Go.RowKit Go.Lib

/-- Roles in a row. -/
def RolesIn (w : World) (a : Option Addr) (rs : List Int) : Prop := ∀ (i : Nat) r, rs[i]? = some r → ∃ b off, a = some ⟨b, off, none⟩ ∧ w.cell? ⟨b, off + i, none⟩ = some (.int .i64 r)
theorem RolesIn.below {w w' : World} {a : Option Addr} {rs : List Int} (h : RolesIn w a rs) (hb : Below w.heap.size w w') : RolesIn w' a rs := by
  intro i r hi
  obtain ⟨b, off, e, c0⟩ := h i r hi
  have hlt : b < w.heap.size := World.block_lt_of_cell? w _ c0
  exact ⟨b, off, e, (hb.cell (p := ⟨b, off + i, none⟩) hlt).trans c0⟩

def idxR (l : List Int) (v : Int) : Int := match l.findIdx? (fun x => x == v) with | some i => (i : Int) | none => -1
theorem idxR_hit {l : List Int} {v : Int} {k : Nat} {x : Int} (hx : l[k]? = some x) (hp : (x == v) = true) (h : ∀ j x, j < k → l[j]? = some x → (x == v) = false) : idxR l v = k := by
  have : l.findIdx? (fun x => x == v) = some k := by
    rw [List.findIdx?_eq_some_iff_getElem]
    obtain ⟨hlt, he⟩ := List.getElem?_eq_some_iff.1 hx
    exact ⟨hlt, by rw [he]; exact hp, fun j hj => by
      have := h j (l[j]'(by omega)) hj (List.getElem?_eq_getElem _)
      rw [this]; exact Bool.false_ne_true⟩
  unfold idxR
  rw [this]
theorem idxR_none {l : List Int} {v : Int} (h : ∀ j x, j < l.length → l[j]? = some x → (x == v) = false) : idxR l v = -1 := by
  have : l.findIdx? (fun x => x == v) = none := by
    rw [List.findIdx?_eq_none_iff]
    intro x hx
    obtain ⟨k, hk⟩ := List.getElem?_of_mem hx
    exact h k x (List.getElem?_eq_some_iff.1 hk).1 hk
  unfold idxR
  rw [this]
theorem idxR_ge (l : List Int) (v : Int) : decide (0 ≤ idxR l v) = l.contains v := by
  unfold idxR
  cases h : l.findIdx? (fun x => x == v) with
  | none =>
    rw [List.findIdx?_eq_none_iff] at h
    have : l.contains v = false := by
      rw [Bool.eq_false_iff]
      intro hc
      have := h v (by simpa using hc)
      simp at this
    rw [this]; rfl
  | some k =>
    rw [List.findIdx?_eq_some_iff_getElem] at h
    obtain ⟨hk, he, _⟩ := h
    have : l.contains v = true := by
      have e : l[k] = v := by simpa using he
      rw [List.contains_iff_mem]
      rw [← e]; exact List.getElem_mem hk
    rw [this]
    simp

theorem rindex_any (w : World) (a : Option Addr) (cap : Nat) (l : List Int) (v : Int) (hl : RolesIn w a l) (hn : l.length ≤ 140737488355328) :
    Calls Tryz.prog 98 #[.slice a l.length cap, .int .i64 v] w fun e w' => e = .returned (.int .i64 (idxR l v)) ∧ w' = w := by
  have HL := hide hl
  clear hl
  go_enter Tryz.func98, Tryz.ntmps98
  go_wp2
  go_loopg [8] l.length (fun g v8 wx => ∃ i : Nat, i + g = l.length ∧ v8 = .int .i64 i ∧ wx = w ∧ ∀ j x, j < i → l[j]? = some x → (x == v) = false)
  case atStart => exact ⟨0, by omega, rfl, rfl, fun j x h => absurd h (Nat.not_lt_zero _)⟩
  case round =>
    obtain ⟨i, hig, rfl, rfl, hno⟩ := hrel
    have HNO := hide hno
    clear hno
    by_cases hi : i < l.length
    · have hiz : (i : Int) < (l.length : Int) := by omega
      obtain ⟨x, hx⟩ : ∃ x, l[i]? = some x := ⟨_, List.getElem?_eq_getElem hi⟩
      obtain ⟨b, off, rfl, c0⟩ := (unhide HL) i x hx
      cases hq : (v == x)
      · have hq2 : (x == v) = false := by rw [beq_eq_false_iff_ne] at hq ⊢; exact fun e => hq e.symm
        have HN2 : Hid (∀ j x, j < i + 1 → l[j]? = some x → (x == v) = false) := hide (fun j y hj hy => by
          by_cases e : j = i
          · subst e; rw [hx] at hy; cases hy; exact hq2
          · exact (unhide HNO) j y (by omega) hy)
        clear hx hq2
        go_wp2
        go_roundg (gk - 1)
        case measure => omega
        case rel => exact ⟨i + 1, by omega, by go_num, rfl, unhide HN2⟩
      · have HR := hide (idxR_hit (v := v) hx (by rw [beq_iff_eq] at hq ⊢; exact hq.symm) (unhide HNO))
        clear hx
        go_wp2
        go_ret
        exact ⟨by rw [unhide HR]; rfl, rfl⟩
    · obtain rfl : i = l.length := by omega
      have hiz : ¬ (l.length : Int) < (l.length : Int) := by omega
      have HR := hide (idxR_none (unhide HNO))
      go_wp2
      go_ret
      exact ⟨by rw [unhide HR]; rfl, rfl⟩

theorem rcontains_any (w : World) (a : Option Addr) (cap : Nat) (l : List Int) (v : Int) (hl : RolesIn w a l) (hn : l.length ≤ 140737488355328) :
    Calls Tryz.prog 76 #[.slice a l.length cap, .int .i64 v] w fun e w' => e = .returned (.bool (l.contains v)) ∧ w' = w := by
  have HI := hide (rindex_any w a cap l v hl hn)
  rw [← idxR_ge]
  generalize idxR l v = k at HI ⊢
  clear hl
  go_enter Tryz.func76, Tryz.ntmps76
  go_wp2_with (go_at_call 98; refine (unhide HI).mono ?_; rintro e w1 ⟨rfl, hw⟩; rw [hw]; clear hw)
  go_ret
  exact ⟨rfl, rfl⟩

set_option maxHeartbeats 1000000 in
theorem requal_any (w : World) (a a2 : Option Addr) (cap cap2 : Nat) (l m : List Int) (hl : RolesIn w a l) (hm : RolesIn w a2 m) (hn : l.length ≤ 140737488355328) :
    Calls Tryz.prog 78 #[.slice a l.length cap, .slice a2 m.length cap2] w fun e w' => e = .returned (.bool (l == m)) ∧ Below w.heap.size w w' := by
  by_cases hlen : l.length = m.length
  · have HL := hide hl
    have HM := hide hm
    have hne : ((l.length : Int) != (m.length : Int)) = false := by simp [hlen]
    have HLEN := hide hlen
    clear hl hm hlen
    go_enter Tryz.func78, Tryz.ntmps78
    go_wp2
    go_loopg [13] l.length (fun g v13 wx => ∃ i : Nat, i + g = l.length ∧ v13 = .int .i64 i ∧ Below w.heap.size w wx ∧ l.take i = m.take i)
    case atStart => exact ⟨0, by omega, rfl, Below.refl _ _, rfl⟩
    case round =>
      obtain ⟨i, hig, rfl, hb, hno⟩ := hrel
      have HNO := hide hno
      have HB := hide hb
      clear hno
      by_cases hi : i < l.length
      · have hiz : (i : Int) < (l.length : Int) := by omega
        have hi2 : i < m.length := by rw [← unhide HLEN]; exact hi
        have hiz2 : (i : Int) < (m.length : Int) := by omega
        obtain ⟨x, hx⟩ : ∃ x, l[i]? = some x := ⟨_, List.getElem?_eq_getElem hi⟩
        obtain ⟨y, hy⟩ : ∃ y, m[i]? = some y := ⟨_, List.getElem?_eq_getElem hi2⟩
        obtain ⟨b, off, rfl, c0⟩ := ((unhide HL).below hb.drew) i x hx
        obtain ⟨b2, off2, rfl, d0⟩ := ((unhide HM).below hb.drew) i y hy
        clear hb
        cases hq : (x != y)
        · have HN2 : Hid (l.take (i + 1) = m.take (i + 1)) := hide (by
            have : x = y := by simpa using hq
            rw [List.take_add_one, List.take_add_one, unhide HNO, hx, hy, this])
          clear hx hy
          go_wp2
          go_region
          all_goals go_wp2
          all_goals go_roundg (gk - 1)
          all_goals first
            | omega
            | exact ⟨i + 1, by omega, by go_num, (unhide HB).drew, unhide HN2⟩
        · have HR : Hid ((l == m) = false) := hide (by
            rw [beq_eq_false_iff_ne]
            rintro rfl
            rw [hx] at hy
            cases hy
            simp at hq)
          clear hx hy
          go_wp2
          go_region
          all_goals go_wp2
          all_goals go_ret
          all_goals exact ⟨by rw [unhide HR]; rfl, (unhide HB).drew⟩
      · obtain rfl : i = l.length := by omega
        have hiz : ¬ (l.length : Int) < (l.length : Int) := by omega
        have HR : Hid ((l == m) = true) := hide (by
          rw [beq_iff_eq]
          have := unhide HNO
          rw [List.take_length, unhide HLEN, List.take_length] at this
          exact this)
        clear hb
        go_wp2
        go_ret
        exact ⟨by rw [unhide HR]; rfl, unhide HB⟩
  · have hne : ((l.length : Int) != (m.length : Int)) = true := by simp; omega
    have HR : Hid ((l == m) = false) := hide (by rw [beq_eq_false_iff_ne]; rintro rfl; exact hlen rfl)
    clear hlen hl hm
    go_enter Tryz.func78, Tryz.ntmps78
    go_wp2
    go_ret
    exact ⟨by rw [unhide HR]; rfl, Below.refl _ _⟩
end Go.Proofs.YtmnmaenmoaehlaaGreatDoor

namespace Go.Proofs.YtmnmaenmoaehlaaGreatDoor
open Go.RowKit Go.Lib

def eachP (some : List Int) : Int → List Int → Bool
  | _, [] => true
  | ah, r :: t => some.contains r && !(r == 9 && ah == 9) && eachP some r t
def atMostP (one : Int) (l : List Int) : Bool := l == [] || l == [one]

theorem each_any (w : World) (v : Value) (hv : ∃ a n c, v = .slice a n c) : Calls Tryz.prog 50 #[v] w fun e w' => e = .returned (.func (.func 75) #[] #[.pointer (some ⟨w.heap.size, 0, none⟩)]) ∧ w' = w.alloc (.cells #[v] 76) := by
  obtain ⟨a, n, c, rfl⟩ := hv
  go_enter Tryz.func50, Tryz.ntmps50
  go_wp2
  go_ret
  exact ⟨rfl, rfl⟩

theorem just_any (w : World) (v : Value) (hv : ∃ a n c, v = .slice a n c) : Calls Tryz.prog 52 #[v] w fun e w' => e = .returned (.func (.func 77) #[] #[.pointer (some ⟨w.heap.size, 0, none⟩)]) ∧ w' = w.alloc (.cells #[v] 76) := by
  obtain ⟨a, n, c, rfl⟩ := hv
  go_enter Tryz.func52, Tryz.ntmps52
  go_wp2
  go_ret
  exact ⟨rfl, rfl⟩

theorem atMost_any (w : World) (r : Int) : Calls Tryz.prog 54 #[.int .i64 r] w fun e w' => e = .returned (.func (.func 79) #[] #[.pointer (some ⟨w.heap.size, 0, none⟩)]) ∧ w' = w.alloc (.cells #[.int .i64 r] 74) := by
  go_enter Tryz.func54, Tryz.ntmps54
  go_wp2
  go_ret
  exact ⟨rfl, rfl⟩

theorem eachC_any (w : World) (a a2 : Option Addr) (cap cap2 : Nat) (l m : List Int) (p : Nat) (hl : RolesIn w a l) (hm : RolesIn w a2 m) (hn : l.length ≤ 140737488355328) (hn2 : m.length ≤ 140737488355328) (hp : w.cell? ⟨p, 0, none⟩ = some (.slice a2 m.length cap2)) :
    Calls Tryz.prog 75 #[.slice a l.length cap, .pointer (some ⟨p, 0, none⟩)] w fun e w' => e = .returned (.bool (eachP m 0 l)) ∧ w' = w := by
  have HL := hide hl
  have HC := hide (fun v => rcontains_any w a2 cap2 m v hm hn2)
  clear hl hm
  go_enter Tryz.func75, Tryz.ntmps75
  go_wp2
  go_loopg [4, 9] l.length (fun g v4 v9 wx => ∃ (i : Nat) (ah : Int), i + g = l.length ∧ v9 = .int .i64 i ∧ v4 = .int .i64 ah ∧ wx = w ∧ eachP m 0 l = eachP m ah (l.drop i))
  case atStart => exact ⟨0, 0, by omega, rfl, rfl, rfl, rfl⟩
  case round =>
    obtain ⟨i, ah, hig, rfl, rfl, rfl, hno⟩ := hrel
    by_cases hi : i < l.length
    · have hiz : (i : Int) < (l.length : Int) := by omega
      obtain ⟨r, hx⟩ : ∃ r, l[i]? = some r := ⟨_, List.getElem?_eq_getElem hi⟩
      obtain ⟨b, off, rfl, c0⟩ := (unhide HL) i r hx
      rw [show l.drop i = r :: l.drop (i + 1) by rw [List.drop_eq_getElem_cons hi]; congr 1; exact Option.some.inj ((List.getElem?_eq_getElem hi).symm.trans hx), eachP] at hno
      clear hx
      cases h1 : m.contains r
      · have HR : Hid (eachP m 0 l = false) := hide (by rw [hno, h1]; rfl)
        clear hno
        go_wp2_with (go_at_call 76; refine ((unhide HC) _).mono ?_; rintro e w1 ⟨rfl, hw⟩; rw [hw, h1]; clear hw)
        go_ret
        exact ⟨by rw [unhide HR]; rfl, rfl⟩
      · cases h2 : (r == 9)
        · have HR : Hid (eachP m 0 l = eachP m r (l.drop (i + 1))) := hide (by rw [hno, h1, h2]; simp)
          clear hno
          go_wp2_with (go_at_call 76; refine ((unhide HC) _).mono ?_; rintro e w1 ⟨rfl, hw⟩; rw [hw, h1]; clear hw)
          go_roundg (gk - 1)
          case measure => omega
          case rel => exact ⟨i + 1, r, by omega, by go_num, rfl, rfl, unhide HR⟩
        · cases h3 : (ah == 9)
          · have HR : Hid (eachP m 0 l = eachP m r (l.drop (i + 1))) := hide (by rw [hno, h1, h2, h3]; simp)
            clear hno
            go_wp2_with (go_at_call 76; refine ((unhide HC) _).mono ?_; rintro e w1 ⟨rfl, hw⟩; rw [hw, h1]; clear hw)
            go_roundg (gk - 1)
            case measure => omega
            case rel => exact ⟨i + 1, r, by omega, by go_num, rfl, rfl, unhide HR⟩
          · have HR : Hid (eachP m 0 l = false) := hide (by rw [hno, h1, h2, h3]; rfl)
            clear hno
            go_wp2_with (go_at_call 76; refine ((unhide HC) _).mono ?_; rintro e w1 ⟨rfl, hw⟩; rw [hw, h1]; clear hw)
            go_ret
            exact ⟨by rw [unhide HR]; rfl, rfl⟩
    · have hiz : ¬ (i : Int) < (l.length : Int) := by omega
      have HR : Hid (eachP m 0 l = true) := hide (by rw [hno, List.drop_eq_nil_of_le (by omega)]; rfl)
      clear hno
      go_wp2
      go_ret
      exact ⟨by rw [unhide HR]; rfl, rfl⟩

theorem justC_any (w : World) (a a2 : Option Addr) (cap cap2 : Nat) (l m : List Int) (p : Nat) (hl : RolesIn w a l) (hm : RolesIn w a2 m) (hn : l.length ≤ 140737488355328) (hp : w.cell? ⟨p, 0, none⟩ = some (.slice a2 m.length cap2)) :
    Calls Tryz.prog 77 #[.slice a l.length cap, .pointer (some ⟨p, 0, none⟩)] w fun e w' => e = .returned (.bool (l == m)) ∧ Below w.heap.size w w' := by
  have HC := hide (requal_any w a a2 cap cap2 l m hl hm hn)
  clear hl hm
  generalize (l == m) = k at HC ⊢
  go_enter Tryz.func77, Tryz.ntmps77
  go_wp2_with (go_at_call 78; refine (unhide HC).mono ?_; rintro e w1 ⟨rfl, hb⟩; have HB := hide hb; clear hb)
  go_ret
  exact ⟨rfl, unhide HB⟩

theorem atMostC_any (w : World) (a : Option Addr) (cap : Nat) (l : List Int) (r : Int) (p : Nat) (hl : RolesIn w a l) (hn : l.length ≤ 140737488355328) (hp : w.cell? ⟨p, 0, none⟩ = some (.int .i64 r)) :
    Calls Tryz.prog 79 #[.slice a l.length cap, .pointer (some ⟨p, 0, none⟩)] w fun e w' => e = .returned (.bool (atMostP r l)) ∧ Below w.heap.size w w' := by
  have hpd : w.drew.cell? ⟨p, 0, none⟩ = some (.int .i64 r) := hp
  have HBD := hide ((Below.refl w.heap.size w).drew)
  match l, hl, hn with
  | [], _, _ =>
    go_enter Tryz.func79, Tryz.ntmps79
    go_wp2
    go_region
    all_goals go_wp2
    all_goals go_ret
    all_goals exact ⟨rfl, unhide HBD⟩
  | [x], hl, _ =>
    obtain ⟨b, off, rfl, c0⟩ := hl 0 x rfl
    have c0d : w.drew.cell? ⟨b, off, none⟩ = some (.int .i64 x) := c0
    have HR : Hid (atMostP r [x] = (x == r)) := hide (by unfold atMostP; simp)
    go_enter Tryz.func79, Tryz.ntmps79
    go_wp2
    go_region
    all_goals go_wp2
    all_goals go_ret
    all_goals exact ⟨by rw [unhide HR]; rfl, unhide HBD⟩
  | x :: y :: t, _, hn =>
    have HR : Hid (atMostP r (x :: y :: t) = false) := hide (by unfold atMostP; simp)
    have h0 : ((t.length : Int) + 1 + 1 == 0) = false := by rw [beq_eq_false_iff_ne]; omega
    have h1 : ((t.length : Int) + 1 + 1 == 1) = false := by rw [beq_eq_false_iff_ne]; omega
    go_enter Tryz.func79, Tryz.ntmps79
    go_wp2
    go_region
    all_goals go_wp2
    all_goals go_ret
    all_goals exact ⟨by rw [unhide HR]; rfl, unhide HBD⟩
end Go.Proofs.YtmnmaenmoaehlaaGreatDoor

namespace Go.Proofs.YtmnmaenmoaehlaaGreatDoor
open Go.RowKit Go.Lib

/-- A row of nodes, each with its attributes. -/
structure RowIn (w : World) (a : Option Addr) (l : List NodeM) : Prop where
  cells : ∀ (i : Nat) n, l[i]? = some n → ∃ b off, a = some ⟨b, off, none⟩ ∧ ∀ (j : Nat) u, n.cells[j]? = some u → w.cell? ⟨b, off + i * 12 + j, none⟩ = some u
  attrs : ∀ (i : Nat) n, l[i]? = some n → ∃ ao cp, n.av = .slice ao n.attrs.length cp ∧ AttrsIn w ao n.attrs
theorem RowIn.below {w w' : World} {a : Option Addr} {l : List NodeM} (h : RowIn w a l) (hb : Below w.heap.size w w') : RowIn w' a l := by
  refine ⟨fun i n hi => ?_, fun i n hi => ?_⟩
  · obtain ⟨b, off, e, hc⟩ := h.cells i n hi
    refine ⟨b, off, e, fun j u hj => ?_⟩
    have c := hc j u hj
    exact (hb.cell (p := ⟨b, off + i * 12 + j, none⟩) (World.block_lt_of_cell? w _ c)).trans c
  · obtain ⟨ao, cp, e, ha⟩ := h.attrs i n hi
    exact ⟨ao, cp, e, ha.below hb⟩

theorem RowIn.at {w : World} {a : Option Addr} {l : List NodeM} (h : RowIn w a l) (i : Nat) (n : NodeM) (hi : l[i]? = some n) : ∃ b off ao cp, a = some ⟨b, off, none⟩ ∧ n.av = .slice ao n.attrs.length cp ∧ AttrsIn w ao n.attrs ∧
    w.cell? ⟨b, off + i * 12, none⟩ = some (.int .i64 n.kind) ∧ w.cell? ⟨b, off + i * 12 + 1, none⟩ = some (.int .i64 n.space) ∧ w.cell? ⟨b, off + i * 12 + 2, none⟩ = some (.string n.name) ∧ w.cell? ⟨b, off + i * 12 + 3, none⟩ = some (.slice ao n.attrs.length cp) ∧ w.cell? ⟨b, off + i * 12 + 4, none⟩ = some (.string n.data) ∧ w.cell? ⟨b, off + i * 12 + 5, none⟩ = some (.string n.system) ∧ w.cell? ⟨b, off + i * 12 + 6, none⟩ = some (.int .i64 n.parent) ∧ w.cell? ⟨b, off + i * 12 + 7, none⟩ = some (.int .i64 n.first) ∧ w.cell? ⟨b, off + i * 12 + 8, none⟩ = some (.int .i64 n.last) ∧ w.cell? ⟨b, off + i * 12 + 9, none⟩ = some (.int .i64 n.prev) ∧ w.cell? ⟨b, off + i * 12 + 10, none⟩ = some (.int .i64 n.next) ∧ w.cell? ⟨b, off + i * 12 + 11, none⟩ = some (.int .i64 n.inner) := by
  obtain ⟨b, off, e, hc⟩ := h.cells i n hi
  obtain ⟨ao, cp, e2, ha⟩ := h.attrs i n hi
  exact ⟨b, off, ao, cp, e, e2, ha, hc 0 _ rfl, hc 1 _ rfl, hc 2 _ rfl, by rw [← e2]; exact hc 3 _ rfl, hc 4 _ rfl, hc 5 _ rfl, hc 6 _ rfl, hc 7 _ rfl, hc 8 _ rfl, hc 9 _ rfl, hc 10 _ rfl, hc 11 _ rfl⟩

theorem Tryz.infoRole : (Tryz.prog.info? 74).map (fun i => (i.zero, i.size, i.bytes)) = some (some (.int .i64 0), 1, 8) := by kernel_rfl
/-- Roles told so far. -/
structure Told (w wx : World) (l : List NodeM) (i : Nat) : Prop where
  blk : ∃ cs, wx.heap[w.heap.size]? = some (.cells cs 74) ∧ cs.size = l.length ∧ ∀ (k : Nat) n, k < i → l[k]? = some n → cs[k]? = some (.int .i64 (roleM n))
  below : Below w.heap.size w wx
theorem Told.put {w wx : World} {l : List NodeM} {i : Nat} {n : NodeM} (h : Told w wx l i) (hi : l[i]? = some n) : Told w (wx.setCell ⟨w.heap.size, i, none⟩ (.int .i64 (roleM n))) l (i + 1) := by
  obtain ⟨⟨cs, h1, h2, h3⟩, hb⟩ := h
  refine ⟨⟨cs.setIfInBounds i (.int .i64 (roleM n)), heap_setCell_same wx w.heap.size i cs 74 _ h1, by simp [h2], fun k m hk hm => ?_⟩, hb.setCell (Nat.le_refl _) _⟩
  rw [Array.getElem?_setIfInBounds]
  by_cases e : i = k
  · subst e
    rw [hi] at hm; cases hm
    rw [if_pos rfl, if_pos (by rw [h2]; exact (List.getElem?_eq_some_iff.1 hi).1)]
  · rw [if_neg e]
    exact h3 k m (by omega) hm

set_option maxHeartbeats 2000000 in
set_option maxRecDepth 100000 in
theorem rolesOf_any (w : World) (a : Option Addr) (cap : Nat) (l : List NodeM) (hl : RowIn w a l) (hn : l.length ≤ 1000000) :
    Calls Tryz.prog 26 #[.slice a l.length cap] w fun e w' => ∃ ra rc, e = .returned (.slice ra l.length rc) ∧ RolesIn w' ra (l.map roleM) ∧ Below w.heap.size w w' := by
  obtain ⟨ti, hi0, hz0, hz1, hz2⟩ := info_parts Tryz.infoRole
  have hmk := run_makeSlice (P := Tryz.prog) (w := w) 76 74 ti (.int .i64 0) (by rw [Tryz.underlying76]) hi0 hz0 .i64 .i64 (l.length : Int) (l.length : Int) (by omega) (Int.le_refl _) (by rw [hz1]; simp; omega) (by rw [hz2]; omega) (by omega)
  simp only [Int.toNat_natCast, hz1, Nat.mul_one] at hmk
  have HT : Hid (Told w (w.alloc (.cells (madeCells (Value.int .i64 0).cells l.length) 74)) l 0) := hide ⟨⟨_, heap_alloc_new w _, size_madeCells _ _, fun k n hk => absurd hk (Nat.not_lt_zero _)⟩, (Below.refl _ _).alloc (Nat.le_refl _) _⟩
  have HL := hide hl
  generalize w.alloc (.cells (madeCells (Value.int .i64 0).cells l.length) 74) = W0 at hmk HT
  clear hl
  go_enter Tryz.func26, Tryz.ntmps26
  go_wp2
  go_loopg [11] l.length (fun g v11 wx => ∃ i : Nat, i + g = l.length ∧ v11 = .int .i64 i ∧ Told w wx l i)
  case atStart => exact ⟨0, by omega, rfl, unhide HT⟩
  case round =>
    obtain ⟨i, hig, rfl, ht⟩ := hrel
    by_cases hi : i < l.length
    · have hiz : (i : Int) < (l.length : Int) := by omega
      obtain ⟨n, hx⟩ : ∃ n, l[i]? = some n := ⟨_, List.getElem?_eq_getElem hi⟩
      obtain ⟨b, off, ao, cp, rfl, hav, hat, c0, c1, c2, c3, c4, c5, c6, c7, c8, c9, c10, c11⟩ := ((unhide HL).below ht.below).at i n hx
      clear hav hat
      have HX := hide hx
      have HTT := hide ht
      clear hx ht
      have HRO : Hid (∀ W, Below wr.heap.size wr W → (∃ v, W.cell? ⟨w.heap.size, i, none⟩ = some v) ∧ W.frozen? ⟨w.heap.size, i, none⟩ = false ∧ Told w W l i) := hide (fun W hb => by
        obtain ⟨⟨cs, h1, h2, h3⟩, hbb⟩ := unhide HTT
        have hlt : w.heap.size < wr.heap.size := (Array.getElem?_eq_some_iff.1 h1).1
        have h1' : W.heap[w.heap.size]? = some (.cells cs 74) := (hb.block _ hlt).trans h1
        refine ⟨⟨cs[i]'(by omega), ?_⟩, ?_, ⟨⟨cs, h1', h2, h3⟩, hbb.trans (hb.mono hbb.size)⟩⟩
        · rw [cell_row _ _ _ _ _ _ h1']
          exact Array.getElem?_eq_getElem _
        · unfold World.frozen?
          simp only [h1']
          simp)
      have HRL := hide (fun W => roleOf_any n ao cp W)
      have HWA : Hid (Below wr.heap.size wr (wr.alloc (nodeB n ao cp))) := hide ((Below.refl _ _).alloc (Nat.le_refl _) _)
      unfold nodW at HRL
      unfold nodeB at HWA
      go_wp2_with (go_at_call 25; refine ((unhide HRL) _).mono ?_; rintro e w2 ⟨rfl, hb2⟩; obtain ⟨⟨vv, hv1⟩, hv2, hv3⟩ := (unhide HRO) _ ((unhide HWA).trans (hb2.mono (unhide HWA).size)); have HTD := hide hv3; clear hv3 hb2)
      go_roundg (gk - 1)
      case measure => omega
      case rel => exact ⟨i + 1, by omega, by go_num, (unhide HTD).put (unhide HX)⟩
    · have hiz : ¬ (i : Int) < (l.length : Int) := by omega
      have HTT := hide ht
      clear ht
      go_wp2
      go_ret
      refine ⟨_, ⟨_, rfl⟩, ?_, (unhide HTT).below⟩
      obtain ⟨⟨cs, h1, h2, h3⟩, hbb⟩ := unhide HTT
      intro k r hk
      rw [List.getElem?_map] at hk
      cases hn : l[k]? with
      | none => rw [hn] at hk; cases hk
      | some n =>
        rw [hn] at hk
        cases hk
        refine ⟨_, _, rfl, ?_⟩
        rw [cell_row _ _ _ _ _ _ h1, Nat.zero_add]
        exact h3 k n (by have := (List.getElem?_eq_some_iff.1 hn).1; omega) hn
end Go.Proofs.YtmnmaenmoaehlaaGreatDoor
