/-
  NodeOrder, walked.
-/
import Derived.Test.YtfbdgcnijoninaaOrd
namespace Go.Proofs.Ytfbdgcnijoninaa
open Go.RowKit

/-- Behind k rounds: k comments, all children of the document. -/
def OrdAt (w0 wr : World) (bA k : Nat) : Prop := ∃ ns F, ArS wr w0.heap.size bA ns F ∧ ns.length = k + 1 ∧ Ord ns (upTo k) ∧ (∀ x ∈ upTo k, fld (·.parent) ns x = 0) ∧ Below w0.heap.size w0 wr ∧ ∀ x, F x → w0.heap.size ≤ x

theorem dataR_fits (ns : List NodeM) (kind : Int) (h : ns.length + 1 ≤ 32768) : dataR ns kind ⟨#[]⟩ = (ns ++ [dataN kind ⟨#[]⟩], (ns.length : Int), 0) := by
  have : longS ⟨#[]⟩ = false := by simp [longS, ByteArray.size]
  simp [dataR, this, h]

/-- A comment more. -/
theorem ord_comment {w0 wr : World} {bA k : Nat} (h : OrdAt w0 wr bA k) (hk : k ≤ 40) :
    Calls Try.prog 31 #[.pointer (some ⟨bA, 0, none⟩), .string ⟨#[]⟩] wr fun e w' => e = .returned (.tuple #[.int .i64 ((k : Int) + 1), .int .i64 0]) ∧
      ∀ w2, w2 = w' → Calls Try.prog 25 #[.pointer (some ⟨bA, 0, none⟩), .int .i64 0, .int .i64 ((k : Int) + 1), .int .i64 (-1)] w2 fun e w' => e = .returned (.int .i64 0) ∧ OrdAt w0 w' bA (k + 1) := by
  obtain ⟨ns, F, ha, hl, ho, hp, hb, hF⟩ := h
  have hc := comment_any ha ⟨#[]⟩
  rw [dataR_fits ns 3 (by omega)] at hc
  refine hc.mono fun e w' ⟨he, hu⟩ => ⟨by rw [he, hl]; rfl, ?_⟩
  rintro w2 rfl
  obtain ⟨hb2, F2, ha2, hF2⟩ := hu.below hb hF
  have ho2 := ho.more [dataN 3 ⟨#[]⟩]
  have hp2 : ∀ x ∈ upTo k, fld (·.parent) (ns ++ [dataN 3 ⟨#[]⟩]) x = 0 := fun x hx => by
    rw [fld_app _ _ _ (ho.kids.mem x hx)]; exact hp x hx
  have hn : (ns ++ [dataN 3 ⟨#[]⟩])[k + 1]? = some (dataN 3 ⟨#[]⟩) := by rw [List.getElem?_append_right (by omega)]; simp [hl]
  have hcn : k + 1 ∉ upTo k ++ [] := by simp [upTo_mem]
  refine (ord_link (A := upTo k) (B := []) ha2 (by simpa using ho2) (by simpa using hp2) hn (by omega) hcn (by simp [dataN, blankM]) (by simp [dataN, blankM]) rfl rfl rfl).mono fun e w3 ⟨he3, ms, hu3, hl3, ho3, hp3⟩ => ⟨he3, ?_⟩
  obtain ⟨hb3, F3, ha3, hF3⟩ := hu3.below hb2 hF2
  exact ⟨ms, F3, ha3, by rw [hl3]; simp [hl], by rw [upTo_succ]; exact ho3, by rw [upTo_succ]; exact hp3, hb3, hF3⟩

theorem upTo_drop {n q : Nat} (h : q ≤ n) : headI ((upTo n).drop q) = if q = n then -1 else (q : Int) + 1 := by
  by_cases e : q = n
  · rw [if_pos e, e, List.drop_eq_nil_of_le (by rw [upTo_len]; exact Nat.le_refl _)]; rfl
  · rw [if_neg e]
    have hq : q < (upTo n).length := by rw [upTo_len]; omega
    rw [List.drop_eq_getElem_cons hq]
    have := upTo_get (k := n) (i := q) (by omega)
    rw [List.getElem?_eq_getElem hq] at this
    simp only [Option.some.injEq] at this
    rw [this]
    simp [headI]

/-- The element that is put among the comments. -/
theorem ord_elem {w0 wr : World} {bA n : Nat} (h : OrdAt w0 wr bA n) (hn : n ≤ 40) :
    Calls Try.prog 23 #[.pointer (some ⟨bA, 0, none⟩), .int .i64 0, .string ⟨#[112]⟩, .slice none 0 0] wr fun e w' => e = .returned (.tuple #[.int .i64 ((n : Int) + 1), .int .i64 0]) ∧
      ∃ ns F, ArS w' w0.heap.size bA ns F ∧ ns.length = n + 2 ∧ Ord ns (upTo n) ∧ (∀ x ∈ upTo n, fld (·.parent) ns x = 0) ∧ (∃ av, ns[n + 1]? = some (elemN 0 ⟨#[112]⟩ [] av)) ∧ Below w0.heap.size w0 w' ∧ ∀ x, F x → w0.heap.size ≤ x := by
  obtain ⟨ns, F, ha, hl, ho, hp, hb, hF⟩ := h
  have hc := element_plain ha 0 ⟨#[112]⟩ none 0 [] ⟨fun i x hi => by simp at hi⟩ (.inr (.inr ⟨rfl, by decide +kernel⟩)) (by simp [longE, longS, ByteArray.size]) (by omega)
  refine hc.mono fun e w' ⟨he, av, hu⟩ => ⟨by rw [he, hl]; rfl, ?_⟩
  obtain ⟨hb2, F2, ha2, hF2⟩ := hu.below hb hF
  exact ⟨_, F2, ha2, by simp [hl], ho.more _, fun x hx => by rw [fld_app _ _ _ (ho.kids.mem x hx)]; exact hp x hx, ⟨av, by rw [List.getElem?_append_right (by omega)]; simp [hl]⟩, hb2, hF2⟩

/-- Behind Link: the element stands at its place. -/
structure Placed (w0 wr : World) (bA n q : Nat) (ns : List NodeM) (F : Nat → Prop) : Prop where
  ar : ArS wr w0.heap.size bA ns F
  len : ns.length = n + 2
  ord : Ord ns ((upTo n).take q ++ (n + 1) :: (upTo n).drop q)
  par : fld (·.parent) ns (n + 1) = 0
  below : Below w0.heap.size w0 wr
  new : ∀ x, F x → w0.heap.size ≤ x

theorem ord_place {w0 wr : World} {bA n : Nat} {ns : List NodeM} {F : Nat → Prop} (ha : ArS wr w0.heap.size bA ns F) (hl : ns.length = n + 2) (ho : Ord ns (upTo n)) (hp : ∀ x ∈ upTo n, fld (·.parent) ns x = 0) {av : Value}
    (hne : ns[n + 1]? = some (elemN 0 ⟨#[112]⟩ [] av)) (hb : Below w0.heap.size w0 wr) (hF : ∀ x, F x → w0.heap.size ≤ x) (q : Nat) (b : Int) (hbq : b = headI ((upTo n).drop q)) :
    Calls Try.prog 25 #[.pointer (some ⟨bA, 0, none⟩), .int .i64 0, .int .i64 ((n : Int) + 1), .int .i64 b] wr fun e w' => e = .returned (.int .i64 0) ∧ ∃ ms G, Placed w0 w' bA n q ms G := by
  subst hbq
  have hcn : n + 1 ∉ (upTo n).take q ++ (upTo n).drop q := by rw [List.take_append_drop]; simp [upTo_mem]
  refine (ord_link (A := (upTo n).take q) (B := (upTo n).drop q) ha (by rw [List.take_append_drop]; exact ho) (by rw [List.take_append_drop]; exact hp) hne (by omega) hcn (by simp [elemN, blankM]) (by simp [elemN, blankM]) rfl rfl rfl).mono fun e w3 ⟨he3, ms, hu3, hl3, ho3, hp3⟩ => ⟨he3, ?_⟩
  obtain ⟨hb3, F3, ha3, hF3⟩ := hu3.below hb hF
  exact ⟨ms, F3, ha3, by rw [hl3, hl], ho3, hp3 (n + 1) (by simp), hb3, hF3⟩

/-- What comes behind: the children; taken out once, and once more; the children again. -/
structure After (w0 wr : World) (bA n : Nat) (ns : List NodeM) (F : Nat → Prop) : Prop where
  ar : ArS wr w0.heap.size bA ns F
  len : ns.length = n + 2
  ord : Ord ns (upTo n)
  par : fld (·.parent) ns (n + 1) = -1
  below : Below w0.heap.size w0 wr
  new : ∀ x, F x → w0.heap.size ≤ x

theorem Placed.kids {w0 wr : World} {bA n q : Nat} (hn : n ≤ 40) (hq : q ≤ n) (h : ∃ ms G, Placed w0 wr bA n q ms G) :
    Calls Try.prog 20 #[.pointer (some ⟨bA, 0, none⟩), .int .i64 0] wr fun e w' => ∃ g cap, e = .returned (.slice (some ⟨g, 0, none⟩) (n + 1) cap) ∧ w'.cell? ⟨g, q, none⟩ = some (.int .i64 ((n : Int) + 1)) ∧ ∃ ms G, Placed w0 w' bA n q ms G := by
  obtain ⟨ms, G, h⟩ := h
  have hlen : ((upTo n).take q ++ (n + 1) :: (upTo n).drop q).length = n + 1 := by simp [upTo_len]; omega
  refine (ord_kids h.ar h.ord (by rw [hlen]; omega)).mono fun e w' ⟨v, he, hown, hb⟩ => ?_
  rw [hlen] at hown
  obtain ⟨g, cap, hv⟩ := ownsRow_succ hown
  subst hv
  refine ⟨g, cap, he, ?_, ms, G, h.ar.below hb, h.len, h.ord, h.par, h.below.trans (hb.mono h.below.size), h.new⟩
  rw [hown.cellAt q (by omega)]
  have hl : ((upTo n).take q).length = q := by rw [List.length_take, upTo_len]; omega
  simp only [intsV, List.map_append, List.map_cons]
  rw [List.getElem?_append_right (by rw [List.length_map, hl]; exact Nat.le_refl _), List.length_map, hl]
  simp

theorem Placed.unlink {w0 wr : World} {bA n q : Nat} (h : ∃ ms G, Placed w0 wr bA n q ms G) :
    Calls Try.prog 27 #[.pointer (some ⟨bA, 0, none⟩), .int .i64 ((n : Int) + 1)] wr fun e w' => e = .returned (.int .i64 0) ∧ ∃ ms G, After w0 w' bA n ms G := by
  obtain ⟨ms, G, h⟩ := h
  refine (ord_unlink h.ar h.ord h.par (by omega)).mono fun e w' ⟨he, ks, hu, hl, ho, hp⟩ => ⟨he, ?_⟩
  obtain ⟨hb3, F3, ha3, hF3⟩ := hu.below h.below h.new
  exact ⟨ks, F3, ha3, by rw [hl, h.len], by rw [List.take_append_drop] at ho; exact ho, hp, hb3, hF3⟩

theorem After.again {w0 wr : World} {bA n : Nat} (h : ∃ ms G, After w0 wr bA n ms G) :
    Calls Try.prog 27 #[.pointer (some ⟨bA, 0, none⟩), .int .i64 ((n : Int) + 1)] wr fun e w' => e = .returned (.int .i64 5) ∧ wr = w' := by
  obtain ⟨ms, G, h⟩ := h
  exact ord_again (c := n + 1) h.ar (by rw [h.len]; omega) h.par

theorem After.kids {w0 wr : World} {bA n : Nat} (hn : n ≤ 40) (h : ∃ ms G, After w0 wr bA n ms G) :
    Calls Try.prog 20 #[.pointer (some ⟨bA, 0, none⟩), .int .i64 0] wr fun e w' => ∃ a cap, e = .returned (.slice a n cap) ∧ (∀ i, i < n → ∃ g, a = some ⟨g, 0, none⟩ ∧ w'.cell? ⟨g, i, none⟩ = some (.int .i64 ((i : Int) + 1))) ∧ Below w0.heap.size w0 w' := by
  obtain ⟨ms, G, h⟩ := h
  refine (ord_kids h.ar h.ord (by rw [upTo_len]; omega)).mono fun e w' ⟨v, he, hown, hb⟩ => ?_
  rw [upTo_len] at hown
  have hbel := h.below.trans (hb.mono h.below.size)
  rcases hown.2 with ⟨rfl, rfl⟩ | ⟨g, cap, cur, rfl, _⟩
  · exact ⟨Option.none, 0, he, fun i hi => by omega, hbel⟩
  · refine ⟨some ⟨g, 0, Option.none⟩, cap, he, fun i hi => ⟨g, rfl, ?_⟩, hbel⟩
    rw [hown.cellAt i (by omega)]
    simp [intsV, upTo_get hi]

set_option maxHeartbeats 4000000 in
theorem order_walk (a0 a1 : Int) (last : Bool) (h0 : 0 ≤ a0) (h0' : a0 ≤ 255) (h1 : 0 ≤ a1) (h1' : a1 ≤ 255) (w : World) :
    Calls Try.prog 10 #[.int .u8 a0, .int .u8 a1, .bool last] w fun e w' => e = .returned (.bool true) ∧ Below w.heap.size w w' := by
  have HN := hide (new_any w w.heap.size (Nat.le_refl _))
  obtain ⟨n, hn, hn40⟩ : ∃ n : Nat, a0 % 40 = n ∧ n < 40 := ⟨(a0 % 40).toNat, by omega, by omega⟩
  go_enter Try.func10, Try.ntmps10
  go_wp2_with fail
  refine (unhide HN).mono ?_
  rintro e w1 ⟨F, rfl, hw1, hb1, hF⟩
  have HO := hide (show OrdAt w w1 (w.heap.size + 3) 0 from ⟨_, F, hw1, rfl, (ord_new F).1, by simp [upTo], hb1, hF⟩)
  clear hw1 hb1 hF
  go_wp2_with fail
  simp only [hn]
  clear hn
  go_loopw [9] (fun i wr => ∃ k : Nat, k ≤ n ∧ i = .int .i64 k ∧ OrdAt w wr (w.heap.size + 3) k) (fun i _ => n - (intOf i).toNat)
  case atStart => exact ⟨0, Nat.zero_le _, rfl, unhide HO⟩
  case round =>
    obtain ⟨k, hk, rfl, hord⟩ := hrel
    by_cases hlt : k < n
    · have HC := hide (ord_comment hord (by omega))
      clear hord HO
      go_wp2_with fail
      refine (unhide HC).mono ?_
      rintro e w2 ⟨rfl, hl2⟩
      have HL2 := hide (hl2 _ rfl)
      clear hl2
      go_wp2_with fail
      refine (unhide HL2).mono ?_
      rintro e w3 ⟨rfl, ho3⟩
      have HO3 := hide ho3
      clear ho3
      go_wp2
      go_roundw
      case rel => first | exact ⟨k + 1, by omega, by go_num, unhide HO3⟩ | ((repeat apply Exists.intro); exact ⟨⟨k + 1, by omega, by go_num, unhide HO3⟩, rfl⟩)
      case measure => simp [intOf]; omega
    · obtain rfl : k = n := by omega
      have HE := hide (ord_elem hord (by omega))
      clear hord HO
      by_cases hk0 : 0 < k
      · have hk0' : (0 : Int) < (k : Int) := by omega
        cases last with
        | true =>
          go_wp2_with fail
          refine (unhide HE).mono ?_
          rintro e w2 ⟨rfl, ns, F, ha, hl, ho, hp, ⟨av, hne⟩, hb, hF⟩
          have HK := hide (ord_place ha hl ho hp hne hb hF k (-1) (by rw [upTo_drop (by omega)]; first | rw [if_pos rfl] | rw [if_neg (by omega)]))
          clear ha hl ho hp hne hb hF
          go_wp2_with fail
          refine (unhide HK).mono ?_
          rintro e w3 ⟨rfl, hat⟩
          have HK3 := hide (Placed.kids (by omega) (by omega) hat)
          clear hat
          go_wp2_with fail
          refine (unhide HK3).mono ?_
          rintro e w4 ⟨g4, cap4, rfl, hc4, hat4⟩
          have HU4 := hide (Placed.unlink hat4)
          clear hat4
          go_wp2_with fail
          refine (unhide HU4).mono ?_
          rintro e w5 ⟨rfl, haf5⟩
          have HA5 := hide (After.again haf5)
          have HK5 := hide (After.kids (by omega) haf5)
          clear haf5
          go_wp2_with fail
          refine (unhide HA5).mono ?_
          rintro e w6 ⟨rfl, rfl⟩
          go_wp2_with fail
          refine (unhide HK5).mono ?_
          rintro e w7 ⟨a7, cap7, rfl, hc7, hb7⟩
          have HB7 := hide hb7
          have HC7 := hide hc7
          clear hb7 hc7 hc4
          go_wp2_with fail
          go_loop [17] (fun i => ∃ j : Nat, j ≤ k ∧ i = .int .i64 j) (fun i => k - (intOf i).toNat)
          case atStart => exact ⟨0, Nat.zero_le _, rfl⟩
          case round =>
            obtain ⟨j, hj, rfl⟩ := hrel
            by_cases hjk : j < k
            · obtain ⟨g7, rfl, hcj⟩ := (unhide HC7) j hjk
              go_wp2
              go_round
              case rel => exact ⟨j + 1, by omega, by go_num⟩
              case measure => simp [intOf]; omega
            · go_wp2
              go_ret
              exact ⟨rfl, unhide HB7⟩
        | false =>
          obtain ⟨q, hqe, hqk⟩ : ∃ q : Nat, a1 % (k : Int) = q ∧ q < k := by
            have h1 := Int.emod_nonneg a1 (b := (k : Int)) (by omega)
            have h2 := Int.emod_lt_of_pos a1 (b := (k : Int)) (by omega)
            exact ⟨(a1 % (k : Int)).toNat, by omega, by omega⟩
          go_wp2_with fail
          refine (unhide HE).mono ?_
          rintro e w2 ⟨rfl, ns, F, ha, hl, ho, hp, ⟨av, hne⟩, hb, hF⟩
          have HK := hide (ord_place ha hl ho hp hne hb hF q ((q : Int) + 1) (by rw [upTo_drop (by omega)]; first | rw [if_pos rfl] | rw [if_neg (by omega)]))
          clear ha hl ho hp hne hb hF
          go_wp2_with fail
          refine (unhide HK).mono ?_
          rintro e w3 ⟨rfl, hat⟩
          have HK3 := hide (Placed.kids (by omega) (by omega) hat)
          clear hat
          go_wp2_with fail
          refine (unhide HK3).mono ?_
          rintro e w4 ⟨g4, cap4, rfl, hc4, hat4⟩
          have HU4 := hide (Placed.unlink hat4)
          clear hat4
          go_wp2_with fail
          refine (unhide HU4).mono ?_
          rintro e w5 ⟨rfl, haf5⟩
          have HA5 := hide (After.again haf5)
          have HK5 := hide (After.kids (by omega) haf5)
          clear haf5
          go_wp2_with fail
          refine (unhide HA5).mono ?_
          rintro e w6 ⟨rfl, rfl⟩
          go_wp2_with fail
          refine (unhide HK5).mono ?_
          rintro e w7 ⟨a7, cap7, rfl, hc7, hb7⟩
          have HB7 := hide hb7
          have HC7 := hide hc7
          clear hb7 hc7 hc4
          go_wp2_with fail
          go_loop [17] (fun i => ∃ j : Nat, j ≤ k ∧ i = .int .i64 j) (fun i => k - (intOf i).toNat)
          case atStart => exact ⟨0, Nat.zero_le _, rfl⟩
          case round =>
            obtain ⟨j, hj, rfl⟩ := hrel
            by_cases hjk : j < k
            · obtain ⟨g7, rfl, hcj⟩ := (unhide HC7) j hjk
              go_wp2
              go_round
              case rel => exact ⟨j + 1, by omega, by go_num⟩
              case measure => simp [intOf]; omega
            · go_wp2
              go_ret
              exact ⟨rfl, unhide HB7⟩
      · have hk0' : ¬ (0 : Int) < (k : Int) := by omega
        go_wp2_with fail
        refine (unhide HE).mono ?_
        rintro e w2 ⟨rfl, ns, F, ha, hl, ho, hp, ⟨av, hne⟩, hb, hF⟩
        have HK := hide (ord_place ha hl ho hp hne hb hF k (-1) (by rw [upTo_drop (by omega)]; first | rw [if_pos rfl] | rw [if_neg (by omega)]))
        clear ha hl ho hp hne hb hF
        go_wp2_with fail
        refine (unhide HK).mono ?_
        rintro e w3 ⟨rfl, hat⟩
        have HK3 := hide (Placed.kids (by omega) (by omega) hat)
        clear hat
        go_wp2_with fail
        refine (unhide HK3).mono ?_
        rintro e w4 ⟨g4, cap4, rfl, hc4, hat4⟩
        have HU4 := hide (Placed.unlink hat4)
        clear hat4
        go_wp2_with fail
        refine (unhide HU4).mono ?_
        rintro e w5 ⟨rfl, haf5⟩
        have HA5 := hide (After.again haf5)
        have HK5 := hide (After.kids (by omega) haf5)
        clear haf5
        go_wp2_with fail
        refine (unhide HA5).mono ?_
        rintro e w6 ⟨rfl, rfl⟩
        go_wp2_with fail
        refine (unhide HK5).mono ?_
        rintro e w7 ⟨a7, cap7, rfl, hc7, hb7⟩
        have HB7 := hide hb7
        have HC7 := hide hc7
        clear hb7 hc7 hc4
        go_wp2_with fail
        go_loop [17] (fun i => ∃ j : Nat, j ≤ k ∧ i = .int .i64 j) (fun i => k - (intOf i).toNat)
        case atStart => exact ⟨0, Nat.zero_le _, rfl⟩
        case round =>
          obtain ⟨j, hj, rfl⟩ := hrel
          by_cases hjk : j < k
          · obtain ⟨g7, rfl, hcj⟩ := (unhide HC7) j hjk
            go_wp2
            go_round
            case rel => exact ⟨j + 1, by omega, by go_num⟩
            case measure => simp [intOf]; omega
          · go_wp2
            go_ret
            exact ⟨rfl, unhide HB7⟩
end Go.Proofs.Ytfbdgcnijoninaa
