/-
  What the law's own page is, as text: evaluated. How long a tree's text can become: each node is told once. The law: which documents are in the class, and their texts: ClassIns walked. What the record of ClassIns stands on: rows that came in, the library's variables, the wrap.
-/
import Derived.Test.YtmnmaenmoaehlaaGreatDoorSZbr
import Derived.Test.YtmnmaenmoaehlaaGreatDoorSZbv
import Derived.Test.YtmnmaenmoaehlaaGreatDoorSZbf
import Derived.Lib.LaidU8T
import Derived.Handed
import Derived.HandedShaped
import Derived.Shelf.LaysM
import Derived.LaidMore
import Derived.Lay
namespace Go.Proofs.YtmnmaenmoaehlaaGreatDoor
open Go.RowKit Go.Lib
def elP : ElM := ⟨0, 3, ⟨#[112]⟩, none, 0, []⟩
theorem text_p : txtO (pagesO [] [elP]) = ([60, 104, 101, 97, 100, 62, 60, 47, 104, 101, 97, 100, 62, 60, 98, 111, 100, 121, 62, 60, 112, 62, 60, 47, 112, 62, 60, 47, 98, 111, 100, 121, 62], 0) := by kernel_rfl
end Go.Proofs.YtmnmaenmoaehlaaGreatDoor

namespace Go.Proofs.YtmnmaenmoaehlaaGreatDoor
open Go.RowKit Go.Lib

/-- What is below a node, in order. -/
def vis (os : List OneM) : Nat → Nat → List Nat
  | 0, _ => []
  | n + 1, i => match os[i]? with
    | none => []
    | some o => (kidsOf os o).flatMap fun k => k :: vis os n k
theorem vis_at {os : List OneM} {i : Nat} {o : OneM} (h : os[i]? = some o) (n : Nat) : vis os (n + 1) i = (kidsOf os o).flatMap fun k => k :: vis os n k := by
  rw [vis, h]
def costAt (os : List OneM) (k : Nat) : Nat := match os[k]? with | none => 0 | some c => costO c
theorem sum_flat {α : Type} (f : α → List Nat) (c : Nat → Nat) (l : List α) : ((l.flatMap f).map c).sum = (l.map fun x => ((f x).map c).sum).sum := by
  induction l with
  | nil => rfl
  | cons x l ih => simp [ih]
theorem cost_vis (os : List OneM) : ∀ (n i : Nat), costN os n i ≤ ((vis os n i).map (costAt os)).sum := by
  intro n
  induction n with
  | zero => intro i; simp [costN]
  | succ n ih =>
    intro i
    cases ho : os[i]? with
    | none => rw [costN, ho]; exact Nat.zero_le _
    | some o =>
      rw [costN_at ho, vis_at ho, sum_flat]
      have : ∀ l : List Nat, (l.map (kidN os n)).sum ≤ (l.map fun k => ((k :: vis os n k).map (costAt os)).sum).sum := by
        intro l
        induction l with
        | nil => simp
        | cons k l ihl =>
          have h1 := ih k
          have h2 : kidN os n k ≤ costAt os k + ((vis os n k).map (costAt os)).sum := by
            generalize ((vis os n k).map (costAt os)).sum = S at h1
            unfold kidN costAt
            cases hc : os[k]? with
            | none => exact Nat.zero_le _
            | some c => show costO c + costN os n k ≤ costO c + S; omega
          simp only [List.map_cons, List.sum_cons] at ihl ⊢
          omega
      exact this _

/-- The ways up of the nodes in a node are that node's source's, one longer. -/
theorem src_path {ns : List NodeM} {os : List OneM} (hs : Sim ns os) {i : Nat} {o : OneM} (ho : os[i]? = some o) {path : List Nat} (hp : PathOf (upO os) i path) : ∃ pre, (∃ x, x ++ path = pre) ∧ ∀ k ∈ kidsOf os o, PathOf (upO os) k (k :: pre) ∧ ∃ c, os[k]? = some c := by
  have one : ∀ (s : Nat) (so : OneM) (sp : List Nat), os[s]? = some so → PathOf (upO os) s sp → ∀ k ∈ so.kids, PathOf (upO os) k (k :: sp) ∧ ∃ c, os[k]? = some c := by
    intro s so sp hso hsp k hks
    obtain ⟨c, hc, hup⟩ := hs.down s so k hso hks
    refine ⟨⟨rfl, s, ?_, hsp⟩, c, hc⟩
    unfold upO
    rw [hc]
    show some (if c.up = -1 then c.host else c.up) = some (s : Int)
    rw [if_neg (by rw [hup]; omega), hup]
  unfold kidsOf
  rcases hs.inner i o ho with h1 | ⟨h1, m, hm, hh⟩
  · rw [if_pos h1]
    exact ⟨path, ⟨[], rfl⟩, fun k hk => one i o path ho hp k hk⟩
  · rw [if_neg (by rw [h1]; omega), h1, show ((i : Int) + 1).toNat = i + 1 by omega, hm]
    have hmu : m.up = -1 := by
      rcases hs.host (i + 1) m hm with h2 | ⟨h2, _⟩
      · rw [hh] at h2; omega
      · exact hs.alone (i + 1) m hm (.inr h2)
    have hp2 : PathOf (upO os) ((i + 1 : Nat) : Int) ((i + 1) :: path) := by
      refine ⟨rfl, (i : Int), ?_, hp⟩
      unfold upO
      rw [hm]
      show some (if m.up = -1 then m.host else m.up) = some (i : Int)
      rw [if_pos hmu, hh]
    exact ⟨(i + 1) :: path, ⟨[i + 1], rfl⟩, fun k hk => one (i + 1) m _ hm hp2 k hk⟩
theorem kidsOf_nodup {ns : List NodeM} {os : List OneM} (hs : Sim ns os) {i : Nat} {o : OneM} (ho : os[i]? = some o) : (kidsOf os o).Nodup := by
  unfold kidsOf
  split
  · exact (hs.kids i o ho).nodup
  · split
    · rename_i c hc; exact (hs.kids _ c hc).nodup
    · exact List.nodup_nil

/-- What is below a node has a way up that ends in the node's. -/
theorem vis_path {ns : List NodeM} {os : List OneM} (hs : Sim ns os) : ∀ (n i : Nat) (o : OneM) (path : List Nat), os[i]? = some o → PathOf (upO os) i path → ∀ k ∈ vis os n i, ∃ x, x ≠ [] ∧ PathOf (upO os) k (x ++ path) ∧ ∃ c, os[k]? = some c := by
  intro n
  induction n with
  | zero => intro i o path _ _ k hk; simp [vis] at hk
  | succ n ih =>
    intro i o path ho hp k hk
    rw [vis_at ho, List.mem_flatMap] at hk
    obtain ⟨a, ha, hk⟩ := hk
    obtain ⟨pre, ⟨x, hx⟩, hpre⟩ := src_path hs ho hp
    obtain ⟨hpa, c, hc⟩ := hpre a ha
    rcases List.mem_cons.1 hk with rfl | hk
    · exact ⟨k :: x, by simp, by rw [List.cons_append, hx]; exact hpa, c, hc⟩
    · obtain ⟨y, hy, hyp, hc'⟩ := ih a c _ hc hpa k hk
      exact ⟨y ++ a :: x, by simp, by rw [List.append_assoc, List.cons_append, hx]; exact hyp, hc'⟩
theorem vis_nodup {ns : List NodeM} {os : List OneM} (hs : Sim ns os) : ∀ (n i : Nat) (o : OneM) (path : List Nat), os[i]? = some o → PathOf (upO os) i path → (vis os n i).Nodup := by
  intro n
  induction n with
  | zero => intro i o path _ _; simp [vis]
  | succ n ih =>
    intro i o path ho hp
    rw [vis_at ho]
    obtain ⟨pre, _, hpre⟩ := src_path hs ho hp
    have hnd := kidsOf_nodup hs ho
    have key : ∀ a ∈ kidsOf os o, ∀ k ∈ a :: vis os n a, ∃ x, PathOf (upO os) k (x ++ a :: pre) := by
      intro a ha k hk
      obtain ⟨hpa, c, hc⟩ := hpre a ha
      rcases List.mem_cons.1 hk with rfl | hk
      · exact ⟨[], hpa⟩
      · obtain ⟨y, _, hyp, _⟩ := vis_path hs n a c _ hc hpa k hk
        exact ⟨y, hyp⟩
    have each : ∀ a ∈ kidsOf os o, (a :: vis os n a).Nodup := by
      intro a ha
      obtain ⟨hpa, c, hc⟩ := hpre a ha
      refine List.nodup_cons.2 ⟨fun hm => ?_, ih a c _ hc hpa⟩
      obtain ⟨y, hy, hyp, _⟩ := vis_path hs n a c _ hc hpa a hm
      have e := path_one hpa hyp
      have := congrArg List.length e
      rw [List.length_append] at this
      have : y.length = 0 := by omega
      exact hy (List.eq_nil_of_length_eq_zero this)
    have gen : ∀ l : List Nat, l.Nodup → (∀ a ∈ l, a ∈ kidsOf os o) → (l.flatMap fun k => k :: vis os n k).Nodup := by
      intro l
      induction l with
      | nil => intro _ _; simp
      | cons a l ihl =>
        intro hn hm
        rw [List.flatMap_cons, List.nodup_append]
        refine ⟨each a (hm a (by simp)), ihl (List.nodup_cons.1 hn).2 (fun b hb => hm b (by simp [hb])), ?_⟩
        intro x hx y hy e
        subst e
        rw [List.mem_flatMap] at hy
        obtain ⟨b, hb, hxb⟩ := hy
        obtain ⟨p1, h1⟩ := key a (hm a (by simp)) x hx
        obtain ⟨p2, h2⟩ := key b (hm b (by simp [hb])) x hxb
        have e := path_one h1 h2
        have e2 := congrArg (fun z => z.reverse[pre.length]?) e
        simp at e2
        subst e2
        exact (List.nodup_cons.1 hn).1 hb
    exact gen _ hnd (fun a ha => ha)
theorem sum_bound (c : Nat → Nat) (M : Nat) (hc : ∀ k, c k ≤ M) (l : List Nat) : (l.map c).sum ≤ l.length * M := by
  induction l with
  | nil => simp
  | cons x l ih => have := hc x; simp only [List.map_cons, List.sum_cons, List.length_cons, Nat.add_mul]; omega
theorem cost_all {ns : List NodeM} {os : List OneM} (hs : Sim ns os) {i : Nat} {o : OneM} (ho : os[i]? = some o) (n M : Nat) (hM : ∀ (k : Nat) c, os[k]? = some c → costO c ≤ M) : costN os n i ≤ os.length * M := by
  obtain ⟨path, hp⟩ := hs.ends i (List.getElem?_eq_some_iff.1 ho).1
  have h1 := cost_vis os n i
  have h2 := sum_bound (costAt os) M (fun k => by
    unfold costAt
    cases hc : os[k]? with
    | none => exact Nat.zero_le _
    | some c => exact hM k c hc) (vis os n i)
  have h3 : (vis os n i).length ≤ os.length := nodup_few _ _ (vis_nodup hs n i o path ho hp) (fun x hx => by
    obtain ⟨_, _, _, c, hc⟩ := vis_path hs n i o path ho hp x hx
    exact (List.getElem?_eq_some_iff.1 hc).1)
  have h4 := Nat.mul_le_mul_right M h3
  omega
end Go.Proofs.YtmnmaenmoaehlaaGreatDoor

namespace Go.Proofs.YtmnmaenmoaehlaaGreatDoor
open Go.RowKit Go.Lib

theorem costO_few (o : OneM) (h : OkO o) : costO o ≤ 10000000000 := by
  have h3 : ∀ l : List AttrM, (∀ x ∈ l, x.name.size ≤ 1048576 ∧ x.val.size ≤ 1048576) → attrsN l ≤ l.length * 8000000 := by
    intro l
    induction l with
    | nil => intro _; simp [attrsN]
    | cons x l ih =>
      intro hx
      have i1 := ih (fun y hy => hx y (by simp [hy]))
      have i2 := hx x (by simp)
      unfold attrsN at *
      simp only [List.foldr_cons, List.length_cons]
      omega
  have h4 := h3 o.attrs h.short.attrs
  have h6 : o.attrs.length * 8000000 ≤ 1024 * 8000000 := Nat.mul_le_mul_right _ h.few
  have h1 := h.short.name
  have h2 := h.short.data
  unfold costO
  omega
theorem bytes_of {s : ByteArray} {l : List UInt8} (h : s.data.toList = l) : s = ⟨l.toArray⟩ := by
  obtain ⟨d⟩ := s
  congr 1
  rw [← h]

/-- What the program and the document say of a page. -/
theorem page_says {w wx : World} {bA bR : Nat} {os : List OneM} (h : P2 w wx bA bR os os) (hE : Ext os) (hP : PgO os) (hl : os.length ≤ 607) (hg : GV wx) :
    (Calls Tryz.prog 5 #[.pointer (some ⟨bA, 0, none⟩)] wx fun e w' => e = .returned (.tuple #[.string ⟨(txtO os).1.toArray⟩, .int .i64 (txtO os).2]) ∧ Below wx.heap.size wx w') ∧
    (∀ W, Below wx.heap.size wx W → Calls Tryz.prog 6 #[.pointer (some ⟨bR, 0, none⟩)] W fun e w' => e = .returned (.tuple #[.string ⟨(txtO os).1.toArray⟩, .int .i64 (txtO os).2]) ∧ Below W.heap.size W w') ∧
    (∀ W, Below wx.heap.size wx W → Calls Tryz.prog 7 #[.pointer (some ⟨bA, 0, none⟩)] W fun e w' => e = .returned (.bool (famF os (os.length + 5) 0 0)) ∧ Below W.heap.size W w') ∧
    (∀ W, Below wx.heap.size wx W → Calls Tryz.prog 8 #[.pointer (some ⟨bR, 0, none⟩)] W fun e w' => e = .returned (.bool (famF os (os.length + 5) 0 0)) ∧ Below W.heap.size W w') := by
  obtain ⟨hb, ns, F, G, ha, hs, hr, hn, hd⟩ := h
  have hc : ∀ i o, os[i]? = some o → costN os (os.length + 1) i ≤ 10000000000000 := by
    intro i o hi
    have h1 := cost_all hs hi (os.length + 1) 10000000000 (fun k c hc => costO_few c (hE k c hc))
    have h2 : os.length * 10000000000 ≤ 607 * 10000000000 := Nat.mul_le_mul_right _ hl
    omega
  refine ⟨?_, fun W hW => ?_, fun W hW => ?_, fun W hW => ?_⟩
  · refine (ctext_any ha hs hE hP (by omega) hg hc).mono ?_
    rintro e w' ⟨⟨s, rfl, h2⟩, h3⟩
    rw [← bytes_of h2]
    exact ⟨rfl, h3⟩
  · obtain ⟨g, cap, rs, hR, ho, _⟩ := hr.below hW
    refine (xtext_any hR ho hs hE hP hc).2.mono ?_
    rintro e w' ⟨⟨s, rfl, h2⟩, h3⟩
    rw [← bytes_of h2]
    exact ⟨rfl, h3⟩
  · exact callsIn_wide.1 (cin_any (ha.below hW) hs hE hP (by omega) (hg.below hW))
  · obtain ⟨g, cap, rs, hR, ho, _⟩ := hr.below hW
    exact (xtext_any hR ho hs hE hP hc).1

set_option maxHeartbeats 4000000 in
set_option maxRecDepth 100000 in
theorem awake_any (w : World) (hg : GV w) : Calls Tryz.prog 9 #[] w fun e w' => e = .returned (.bool true) ∧ Below w.heap.size w w' := by
  have hb0 := below_new w (.cells #[.int .i64 0, .int .i64 3, .string ⟨#[112]⟩, .slice none 0 0] 47)
  have hw0 : (w.alloc (.cells #[.int .i64 0, .int .i64 3, .string ⟨#[112]⟩, .slice none 0 0] 47)).heap[w.heap.size]? = some (.cells #[.int .i64 0, .int .i64 3, .string ⟨#[112]⟩, .slice none 0 0] 47) := heap_alloc_new w _
  have hin : ElsIn (w.alloc (.cells #[.int .i64 0, .int .i64 3, .string ⟨#[112]⟩, .slice none 0 0] 47)) (some ⟨w.heap.size, 0, none⟩) [elP] := by
    have key : ∀ (i : Nat) o, [elP][i]? = some o → i = 0 ∧ o = elP := by
      intro i o hi
      have e : i = 0 := by have := (List.getElem?_eq_some_iff.1 hi).1; simpa using this
      subst e
      exact ⟨rfl, by simpa using hi.symm⟩
    refine ⟨fun i o hi => ?_, fun i o hi => ?_⟩
    · obtain ⟨rfl, rfl⟩ := key i o hi
      exact ⟨_, _, rfl, cell_row _ _ 0 _ _ _ hw0, cell_row _ _ 1 _ _ _ hw0, cell_row _ _ 2 _ _ _ hw0, cell_row _ _ 3 _ _ _ hw0⟩
    · obtain ⟨rfl, rfl⟩ := key i o hi
      exact ⟨⟨fun j x hj => by cases hj⟩, by simp [elP]⟩
  have hp := pages_any [] none 0 [elP] _ 1 _ ⟨fun j x hj => by cases hj⟩ (by simp) hin (by simp [maxLen])
  have HP : Hid (Calls Tryz.prog 4 #[.slice none 0 0, .slice (some ⟨w.heap.size, 0, none⟩) 1 1] (w.alloc (.cells #[.int .i64 0, .int .i64 3, .string ⟨#[112]⟩, .slice none 0 0] 47)) fun e w' => ∃ bA bR, e = .returned (.tuple #[.pointer (some ⟨bA, 0, none⟩), .pointer (some ⟨bR, 0, none⟩)]) ∧ Below w.heap.size w w' ∧
      Calls Tryz.prog 5 #[.pointer (some ⟨bA, 0, none⟩)] w' fun e w2 => e = .returned (.tuple #[.string ⟨#[60, 104, 101, 97, 100, 62, 60, 47, 104, 101, 97, 100, 62, 60, 98, 111, 100, 121, 62, 60, 112, 62, 60, 47, 112, 62, 60, 47, 98, 111, 100, 121, 62]⟩, .int .i64 0]) ∧ Below w'.heap.size w' w2) := by
    refine hide (hp.mono fun e w' ⟨bA, bR, he, h2, hx, hpg, hlen⟩ => ⟨bA, bR, he, hb0.trans (h2.1.mono hb0.size), ?_⟩)
    have := (page_says h2 hx hpg hlen ((hg.below hb0).below h2.1)).1
    rw [text_p] at this
    exact this
  clear hp hin hw0 hb0 hg
  go_enter Tryz.func9, Tryz.ntmps9
  go_wp2_with (first
    | (go_at_call 4; refine (unhide HP).mono ?_; rintro e w1 ⟨bA, bR, rfl, hb1, h1⟩; have HB1 := hide hb1; have H1 := hide h1; clear hb1 h1)
    | (go_at_call 5; refine (unhide H1).mono ?_; rintro e w2 ⟨rfl, hb2⟩; have HB2 := hide ((unhide HB1).trans (hb2.mono (unhide HB1).size)); clear hb2))
  go_ret
  exact ⟨rfl, unhide HB2⟩

set_option maxHeartbeats 4000000 in
set_option maxRecDepth 100000 in
theorem classIns_walk (body : List AttrM) (la : Option Addr) (lc : Nat) (l : List ElM) (a : Option Addr) (cap : Nat) (w : World) (hbd : AttrsIn w la body) (hbl : body.length ≤ maxLen) (hin : ElsIn w a l) (hl : l.length ≤ maxLen) (hg : GV w) :
    Calls Tryz.prog 3 #[.slice la body.length lc, .slice a l.length cap] w fun e w' => e = .returned (.bool true) ∧ Below w.heap.size w w' := by
  have HA : Hid (Calls Tryz.prog 4 #[.slice la body.length lc, .slice a l.length cap] w fun e w' => ∃ bA bR, e = .returned (.tuple #[.pointer (some ⟨bA, 0, none⟩), .pointer (some ⟨bR, 0, none⟩)]) ∧ Below w.heap.size w w' ∧
      ∃ (t : ByteArray) (er : Int) (y : Bool), (Calls Tryz.prog 5 #[.pointer (some ⟨bA, 0, none⟩)] w' fun e w2 => e = .returned (.tuple #[.string t, .int .i64 er]) ∧ Below w'.heap.size w' w2) ∧
      (∀ W, Below w'.heap.size w' W → Calls Tryz.prog 6 #[.pointer (some ⟨bR, 0, none⟩)] W fun e w2 => e = .returned (.tuple #[.string t, .int .i64 er]) ∧ Below W.heap.size W w2) ∧
      (∀ W, Below w'.heap.size w' W → Calls Tryz.prog 7 #[.pointer (some ⟨bA, 0, none⟩)] W fun e w2 => e = .returned (.bool y) ∧ Below W.heap.size W w2) ∧
      (∀ W, Below w'.heap.size w' W → Calls Tryz.prog 8 #[.pointer (some ⟨bR, 0, none⟩)] W fun e w2 => e = .returned (.bool y) ∧ Below W.heap.size W w2)) :=
    hide ((pages_any body la lc l a cap w hbd hbl hin hl).mono fun e w' ⟨bA, bR, he, h2, hx, hpg, hlen⟩ => ⟨bA, bR, he, h2.1, _, _, _, page_says h2 hx hpg hlen (hg.below h2.1)⟩)
  have HG := hide hg
  clear hin hl hbd hbl hg
  go_enter Tryz.func3, Tryz.ntmps3
  go_wp2_with (first
    | (go_at_call 4; refine (unhide HA).mono ?_; rintro e w1 ⟨bA, bR, rfl, hb1, t, er, y, h1, h2, h3, h4⟩; have HB1 := hide hb1; have H1 := hide h1; have H2 := hide h2; have H3 := hide h3; have H4 := hide h4; clear hb1 h1 h2 h3 h4)
    | (go_at_call 5; refine (unhide H1).mono ?_; rintro e w2 ⟨rfl, hb2⟩; have HB2 := hide hb2; clear hb2)
    | (go_at_call 6; refine ((unhide H2) _ (unhide HB2)).mono ?_; rintro e w3 ⟨rfl, hb3⟩; have HB3 := hide ((unhide HB2).trans (hb3.mono (unhide HB2).size)); clear hb3)
    | (go_at_call 7; refine ((unhide H3) _ (unhide HB3)).mono ?_; rintro e w4 ⟨rfl, hb4⟩; have HB4 := hide ((unhide HB3).trans (hb4.mono (unhide HB3).size)); clear hb4)
    | (go_at_call 8; refine ((unhide H4) _ (unhide HB4)).mono ?_; rintro e w5 ⟨rfl, hb5⟩; have HB5 := hide ((unhide HB1).trans (((unhide HB4).trans (hb5.mono (unhide HB4).size)).mono (unhide HB1).size)); clear hb5)
    | (go_at_call 9; refine (awake_any _ ((unhide HG).below (unhide HB5))).mono ?_; rintro e w6 ⟨rfl, hb6⟩; have HB6 := hide ((unhide HB5).trans (hb6.mono (unhide HB5).size)); clear hb6))
  all_goals
    go_ret
    exact ⟨rfl, unhide HB6⟩
end Go.Proofs.YtmnmaenmoaehlaaGreatDoor

namespace Go.Proofs.YtmnmaenmoaehlaaGreatDoor
open Go.ChangeShapes Go.WideShapes Go.ChangeAt Go.RowKit

section
variable {H : Type} {enc : TypeId × Value → H} {W : World} {spare : Nat → Bool} {held : Bool}
theorem attrs_open {a : Option Addr} {len cap : Nat} {d : DataW H} {ps : List MemPlace} (h : DataW.Trod enc Tryz.prog W 0 spare held 22 (.slice a len cap) d ps) (hsz : (d.weights Tryz.prog 22).all (· ≤ reachBytes) = true) :
    ∃ l : List AttrM, len = l.length ∧ AttrsIn W a l ∧ l.length ≤ maxLen := by
  obtain ⟨fuel, hf⟩ := h
  obtain ⟨a', cap', l, hcs, h1, h2⟩ := attrs_cells hf
  simp [Value.cells] at hcs
  obtain ⟨rfl, rfl, rfl⟩ := hcs
  exact ⟨l, rfl, h1, by have := h2 hsz; unfold maxLen; omega⟩
end

/-- The library's variables, as the row's condition and the world's shape tell them. -/
theorem gv_of {W : World} (h : laidMetH Tryz.prog [("unicode/utf8.acceptRanges", Rows.laid_unicode_utf8_acceptRanges), ("unicode/utf8.first", Rows.laid_unicode_utf8_first)] W) (hs : W.ShapedOpen Tryz.prog) : GV W := by
  rw [MakeChecks.laidMetH_plain _ _ _ (by kernel_rfl)] at h
  have e1 : (Rows.laid_unicode_utf8_first : DataW Unit) = Lib.firstData := by kernel_rfl
  have e2 : (Rows.laid_unicode_utf8_acceptRanges : DataW Unit) = Lib.acceptData := by kernel_rfl
  rw [e1, e2] at h
  exact ⟨utf8Tabs_of_readsT (ρ := Tryz.lays196_ren) (U8Types.of196 Tryz.lays196) ⟨by kernel_rfl, by kernel_rfl, by kernel_rfl, by kernel_rfl, by kernel_rfl, by kernel_rfl, by kernel_rfl⟩ (Lib.laidMet.reads h (.tail _ (.head _))) (Lib.laidMet.reads h (.head _)), Tryz.laysM144.s1_3 W hs⟩

/-- A row that lists variables, the world's shape handed on. -/
theorem handed_and_shaped {H : Type} {enc : TypeId × Value → H} {a : Assume} {C : Checked} {os : Os} {f : FuncId} {fn : Func} {s : ChangeSpec} {conds : List PathCond} {apart fresh handsOn again : Bool} {X : World → Array Value → Prop}
    (hX : ∀ (w w' : World) (args : Array Value), w.heap = w'.heap → X w args → X w' args)
    (own : ownKnob C.prog.godebug = none) (started : os.Started) (noInit : C.prog.inits.idxOf? f = none) (hfn : C.prog.funcs[f]? = some fn)
    (witness : ∃ (w : World) (tape : Tape) (i : Input), w.os = os ∧ (w.forCall tape i).Shaped C.prog ∧ i.vars = [] ∧ Input.okWide C.prog (w.forCall tape i) .any w.heap.size f i ∧
      ((s.pre enc C.prog fn conds apart (w.forCall tape i).memory i.args ∧ X (w.forCall tape i).memory i.args) ∧ sizedMet enc C.prog fn (OpenSpec.ofChange s) apart (w.forCall tape i).memory i.args) ∧ a.holds C.prog (lone (Frame.enter C.prog f i.args .normal) [] (w.forCall tape i)))
    (contract : ∀ (W : World) (base : Nat) (args : Array Value) (ds gs : List (DataW H)) (before : List MemPlace),
      (∀ (j : Nat) t v, fn.params[j]? = some t → args[j]? = some v → Value.okWide C.prog W .any base t v) →
      DataW.Whole enc C.prog fn.params.toList s.vars apart W args.toList ds gs before →
      (DataW.weightsEach C.prog (fn.params.toList ++ s.plain.varTypes C.prog) (ds ++ gs)).all (· ≤ reachBytes) = true → X W args → W.ShapedOpen C.prog →
      Calls C.prog f args W fun e W' => ∃ v, e = .returned v ∧ s.post enc C.prog fn apart fresh handsOn again W args v W') :
    ReturnsInHanded a C os f .any (fun w args => (s.pre enc C.prog fn conds apart w args ∧ X w args) ∧ sizedMet enc C.prog fn (OpenSpec.ofChange s) apart w args) (s.post enc C.prog fn apart fresh handsOn again) := by
  refine returnsInHanded_of_calls own started noInit witness ?_
  intro w tape i _ hsh _ hok hpre _
  obtain ⟨_, _, _, fn', hfn', _, _, _, _, hval⟩ := hok
  obtain rfl : fn' = fn := Option.some.inj (hfn'.symm.trans hfn)
  obtain ⟨⟨⟨ds, gs, before, hw, _⟩, hx⟩, hz⟩ := hpre
  refine (contract _ w.heap.size i.args ds gs before hval (DataW.Whole.of_heap (w' := w.forCall tape i) (by rfl) hw) (hz.weights hw) (hX _ _ _ (by rfl) hx) hsh).mono fun e W' ⟨v, he, hp⟩ => ?_
  subst he
  exact ChangeSpec.post_blind hp
end Go.Proofs.YtmnmaenmoaehlaaGreatDoor
