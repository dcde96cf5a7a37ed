/-
  Proved: NodeOrder returns true for every number of children, place and end: a child that is linked ahead of another one, or at the end, stands just there; unlinked, all others stand as they did.
  Conditions: none beyond the given row's own.
-/
import Derived.Test.YtfbdgcnijoninaaKin
import Derived.Test.YtfbdgcnijoninaaTempl
namespace Go.Proofs.Ytfbdgcnijoninaa
open Go.RowKit

/-- What the setters leave alone. -/
structure Still (f : NodeM → Int) : Prop where
  first : ∀ b n, f (setFirst b n) = f n
  last : ∀ b n, f (setLast b n) = f n
  prev : ∀ b n, f (setPrev b n) = f n
  next : ∀ b n, f (setNext b n) = f n

theorem still_kind : Still (·.kind) := ⟨fun _ _ => rfl, fun _ _ => rfl, fun _ _ => rfl, fun _ _ => rfl⟩
theorem still_parent : Still (·.parent) := ⟨fun _ _ => rfl, fun _ _ => rfl, fun _ _ => rfl, fun _ _ => rfl⟩

theorem fld_join {f : NodeM → Int} (hf : Still f) (ns : List NodeM) (p : Nat) (a b : Int) (i : Nat) : fld f (joinM ns p a b) i = fld f ns i := by
  have h1 : fld f (joinB (joinA ns p a b) p a b) i = fld f (joinA ns p a b) i := by
    unfold joinB
    split
    · exact fld_upd_keep f _ _ _ (setLast a) (hf.last a)
    · exact fld_upd_keep f _ _ _ (setPrev a) (hf.prev a)
  have h2 : fld f (joinA ns p a b) i = fld f ns i := by
    unfold joinA
    split
    · exact fld_upd_keep f _ _ _ (setFirst b) (hf.first b)
    · exact fld_upd_keep f _ _ _ (setNext b) (hf.next b)
  rw [joinM, h1, h2]

theorem kind_link (ns : List NodeM) (p c : Nat) (b a : Int) (i : Nat) : fld (·.kind) (linkM ns p c b a) i = fld (·.kind) ns i := by
  rw [linkM, fld_join still_kind, fld_join still_kind]
  exact fld_upd_keep _ _ _ _ (setParent p) (fun _ => rfl)
theorem parent_link (ns : List NodeM) (p c : Nat) (b a : Int) (i : Nat) (hc : c < ns.length) : fld (·.parent) (linkM ns p c b a) i = if i = c then (p : Int) else fld (·.parent) ns i := by
  rw [linkM, fld_join still_parent, fld_join still_parent]
  by_cases h : i = c
  · subst h; rw [if_pos rfl]; exact fld_upd_same _ _ _ _ _ hc (fun _ => rfl)
  · rw [if_neg h]; exact fld_upd_other _ _ (fun e => h e.symm) _
theorem kind_unlink (ns : List NodeM) (c : Nat) (n : NodeM) (i : Nat) : fld (·.kind) (unlinkM ns c n) i = fld (·.kind) ns i := by
  rw [unlinkM, fld_upd_keep _ _ _ _ (setNext (-1)) (fun _ => rfl), fld_upd_keep _ _ _ _ (setPrev (-1)) (fun _ => rfl), fld_upd_keep _ _ _ _ (setParent (-1)) (fun _ => rfl), fld_join still_kind]
theorem parent_unlink (ns : List NodeM) (c : Nat) (n : NodeM) (i : Nat) (hc : c < ns.length) : fld (·.parent) (unlinkM ns c n) i = if i = c then -1 else fld (·.parent) ns i := by
  rw [unlinkM, fld_upd_keep _ _ _ _ (setNext (-1)) (fun _ => rfl), fld_upd_keep _ _ _ _ (setPrev (-1)) (fun _ => rfl)]
  by_cases h : i = c
  · subst h; rw [if_pos rfl]; exact fld_upd_same _ _ _ _ _ (by rw [joinM_len]; exact hc) (fun _ => rfl)
  · rw [if_neg h, fld_upd_other _ _ (fun e => h e.symm), fld_join still_parent]

/-- The document's children are L; it is a document without a parent. -/
structure Ord (ns : List NodeM) (L : List Nat) : Prop where
  kids : KidsOf ns 0 L
  kind : fld (·.kind) ns 0 = 0
  up : fld (·.parent) ns 0 = -1

theorem Ord.doc {ns : List NodeM} {L : List Nat} (h : Ord ns L) : ∃ n, ns[0]? = some n ∧ n.kind = 0 ∧ n.parent = -1 ∧ n.last = lastI L ∧ PathOf (upF ns) 0 [0] := by
  obtain ⟨n, hn⟩ : ∃ n, ns[0]? = some n := ⟨_, List.getElem?_eq_getElem h.kids.lt⟩
  have h1 : n.kind = 0 := by rw [← fld_of (f := (·.kind)) hn]; exact h.kind
  have h2 : n.parent = -1 := by rw [← fld_of (f := (·.parent)) hn]; exact h.up
  refine ⟨_, hn, h1, h2, ?_, ?_⟩
  · obtain ⟨X, hX⟩ := cut_left L
    have hch := h.kids.chain
    have hr : ring L = X ++ lastI L :: -1 :: [] := by
      rw [ring_eq, ← List.cons_append, hX]; simp
    rw [hr, Ch_append] at hch
    have := hch.2.1.2
    simpa [bwd, fld, hn] using this
  · refine ⟨rfl, -1, ?_, rfl⟩
    simp [upF, hn, overM, h1, h2]

/-- May a new node without links be put among the document's children? Yes. -/
theorem Ord.may {ns : List NodeM} {L : List Nat} (h : Ord ns L) {n0 nc : NodeM} (h0 : ns[0]? = some n0) {c : Nat} (hc0 : 0 < c) (k1 : nc.kind ≠ 0) (k2 : nc.kind ≠ 5) (k3 : nc.parent = -1) (k4 : nc.first = -1) (k5 : nc.inner = -1)
    {A B : List Nat} (hL : L = A ++ B) (hpar : ∀ x ∈ L, fld (·.parent) ns x = 0) : mayM ns 0 n0 c nc (headI B) [0] = 0 := by
  have e0 : n0.kind = 0 := by rw [← fld_of (f := (·.kind)) h0]; exact h.kind
  have hcov : coversM c nc 0 [0] = false := by simp [coversM, k4, k5]; omega
  have hb : ¬ (headI B ≠ -1 ∧ (ns[(headI B).toNat]?).map (·.parent) ≠ some ((0 : Nat) : Int)) := by
    rintro ⟨h1, h2⟩
    rcases headI_mem (B := B) with e | ⟨x, hx, e⟩
    · exact h1 e
    · have hx' : x ∈ L := by rw [hL]; simp [hx]
      have hp := hpar x hx'
      have hlt := h.kids.mem x hx'
      have hn : ns[x]? = some ns[x] := List.getElem?_eq_getElem hlt
      rw [fld_of hn] at hp
      apply h2
      rw [e]
      simp [hn, hp]
  have f1 : ¬ (parentM n0.kind = false ∨ nc.kind = 0 ∨ nc.kind = 5) := by simp [parentM, e0, k1, k2]
  have f2 : ¬ (nc.parent ≠ -1 ∨ coversM c nc 0 [0] = true) := by simp [k3, hcov]
  rw [mayM, if_neg f1, if_neg f2, if_neg hb]

theorem Ord.prev {ns : List NodeM} {A B : List Nat} (h : Ord ns (A ++ B)) {n0 : NodeM} (h0 : ns[0]? = some n0) : prevM ns n0 (headI B) = lastI A ∧ okK ns (lastI A) ∧ okK ns (headI B) := by
  obtain ⟨X, hX⟩ := cut_left A
  obtain ⟨Y, hY⟩ := cut_right B
  obtain ⟨ok1, ok2, _⟩ := cut_facts h.kids.nodup h.kids.mem hX hY
  refine ⟨?_, ok1, ok2⟩
  have hch := h.kids.chain
  rw [ring_cut hX hY, Ch_append] at hch
  have hb := hch.2.1.2
  unfold prevM
  by_cases e : headI B = -1
  · rw [if_pos e]
    rw [e] at hb
    simpa [bwd, fld, h0] using hb
  · rw [if_neg e]
    simpa [bwd, fld, e] using hb

/-- 1 to k. -/
def upTo (k : Nat) : List Nat := (List.range k).map (· + 1)
theorem upTo_succ (k : Nat) : upTo (k + 1) = upTo k ++ [k + 1] := by simp [upTo, List.range_succ]
theorem upTo_mem {k x : Nat} : x ∈ upTo k ↔ 1 ≤ x ∧ x ≤ k := by
  simp [upTo]
  constructor
  · rintro ⟨a, h, rfl⟩; omega
  · rintro ⟨h1, h2⟩; exact ⟨x - 1, by omega, by omega⟩
theorem upTo_len (k : Nat) : (upTo k).length = k := by simp [upTo]
theorem upTo_get {k i : Nat} (h : i < k) : (upTo k)[i]? = some (i + 1) := by simp [upTo, h]

/-- A new node put among the document's children by Link. -/
theorem ord_link {w : World} {base bA : Nat} {ns : List NodeM} {F : Nat → Prop} (h : ArS w base bA ns F) {A B : List Nat} (ho : Ord ns (A ++ B)) (hpar : ∀ x ∈ A ++ B, fld (·.parent) ns x = 0) {c : Nat} {nc : NodeM} (hc : ns[c]? = some nc) (hc0 : 0 < c) (hcn : c ∉ A ++ B)
    (k1 : nc.kind ≠ 0) (k2 : nc.kind ≠ 5) (k3 : nc.parent = -1) (k4 : nc.first = -1) (k5 : nc.inner = -1) :
    Calls Try.prog 25 #[.pointer (some ⟨bA, 0, none⟩), .int .i64 0, .int .i64 c, .int .i64 (headI B)] w fun e w' => e = .returned (.int .i64 0) ∧
      ∃ ms, Upd F w w' base bA ms ∧ ms.length = ns.length ∧ Ord ms (A ++ c :: B) ∧ (∀ x ∈ A ++ c :: B, fld (·.parent) ms x = 0) := by
  obtain ⟨bS, g, cap, h, hF⟩ := h
  obtain ⟨n0, h0, _, _, _, hpath⟩ := ho.doc
  obtain ⟨e1, ok1, ok2⟩ := ho.prev h0
  have hmay := ho.may h0 hc0 k1 k2 k3 k4 k5 rfl hpar
  have hlt : c < ns.length := (List.getElem?_eq_some_iff.1 hc).1
  have hl := link_ok h 0 n0 h0 c nc hc (headI B) ok2 [0] hpath hmay (by rw [e1]; exact ok1)
  rw [e1] at hl
  refine hl.mono fun e w' ⟨he, har, hm⟩ => ⟨he, _, upd_of_mod hF har hm (fun k hk => foot_link _ _ _ _ _ k hk), linkM_len _ _ _ _ _, ⟨ho.kids.insert hlt hcn, by rw [kind_link]; exact ho.kind, ?_⟩, ?_⟩
  · rw [parent_link _ _ _ _ _ _ hlt, if_neg (by omega)]; exact ho.up
  · intro x hx
    rw [parent_link _ _ _ _ _ _ hlt]
    by_cases hxc : x = c
    · rw [if_pos hxc]; rfl
    · rw [if_neg hxc]
      refine hpar x ?_
      rcases List.mem_append.1 hx with h1 | h1
      · simp [h1]
      · rcases List.mem_cons.1 h1 with h1 | h1
        · exact absurd h1 hxc
        · simp [h1]

theorem ord_unlink {w : World} {base bA : Nat} {ns : List NodeM} {F : Nat → Prop} (h : ArS w base bA ns F) {A B : List Nat} {c : Nat} (ho : Ord ns (A ++ c :: B)) (hpar : fld (·.parent) ns c = 0) (hc0 : 0 < c) :
    Calls Try.prog 27 #[.pointer (some ⟨bA, 0, none⟩), .int .i64 c] w fun e w' => e = .returned (.int .i64 0) ∧
      ∃ ms, Upd F w w' base bA ms ∧ ms.length = ns.length ∧ Ord ms (A ++ B) ∧ fld (·.parent) ms c = -1 := by
  obtain ⟨bS, g, cap, h, hF⟩ := h
  have hlt : c < ns.length := ho.kids.mem c (by simp)
  obtain ⟨n, hn⟩ : ∃ n, ns[c]? = some n := ⟨_, List.getElem?_eq_getElem hlt⟩
  have hp : n.parent = ((0 : Nat) : Int) := by rw [← fld_of (f := (·.parent)) hn]; exact hpar
  obtain ⟨e1, e2⟩ := ho.kids.nbrs hn
  obtain ⟨X, hX⟩ := cut_left A
  obtain ⟨Y, hY⟩ := cut_right B
  have hr := ho.kids.remove hn (by rw [hp]; rfl)
  obtain ⟨ok1, ok2, _⟩ := cut_facts (ns := ns) hr.nodup (fun d hd => by have := hr.mem d hd; rw [unlinkM_len] at this; exact this) hX hY
  refine (unlink_ok h c n hn 0 hp h.pos (by rw [e1]; exact ok1) (by rw [e2]; exact ok2)).mono fun e w' ⟨he, har, hm⟩ => ⟨he, _, upd_of_mod hF har hm (fun k hk => foot_unlink _ _ _ k hk), unlinkM_len _ _ _, ⟨hr, by rw [kind_unlink]; exact ho.kind, ?_⟩, ?_⟩
  · rw [parent_unlink _ _ _ _ hlt, if_neg (by omega)]; exact ho.up
  · rw [parent_unlink _ _ _ _ hlt, if_pos rfl]

theorem ord_again {w : World} {base bA : Nat} {ns : List NodeM} {F : Nat → Prop} (h : ArS w base bA ns F) {c : Nat} (hlt : c < ns.length) (hpar : fld (·.parent) ns c = -1) :
    Calls Try.prog 27 #[.pointer (some ⟨bA, 0, none⟩), .int .i64 c] w fun e w' => e = .returned (.int .i64 5) ∧ w = w' := by
  obtain ⟨bS, g, cap, h, hF⟩ := h
  obtain ⟨n, hn⟩ : ∃ n, ns[c]? = some n := ⟨_, List.getElem?_eq_getElem hlt⟩
  exact unlink_free h c n hn (by rw [← fld_of (f := (·.parent)) hn]; exact hpar)

theorem ord_kids {w : World} {base bA : Nat} {ns : List NodeM} {F : Nat → Prop} (h : ArS w base bA ns F) {L : List Nat} (ho : Ord ns L) (hL : L.length ≤ 32768) :
    Calls Try.prog 20 #[.pointer (some ⟨bA, 0, none⟩), .int .i64 0] w fun e w' => ∃ v, e = .returned v ∧ w'.ownsRow w.heap.size 3 1 v L.length (intsV L) ∧ Below w.heap.size w w' := by
  obtain ⟨bS, g, cap, h, hF⟩ := h
  obtain ⟨n0, h0, _⟩ := ho.doc
  exact callsIn_wide.1 (kids_in h 0 n0 h0 L (ho.kids.path h0) hL)

theorem ord_new (F : Nat → Prop) : Ord [blankM 0] [] ∧ F = F :=
  ⟨⟨⟨by simp, ⟨⟨by simp [fwd, fld, blankM], by simp [bwd, fld, blankM]⟩, trivial⟩, by simp, by simp⟩, by simp [fld, blankM], by simp [fld, blankM]⟩, rfl⟩

theorem Ord.more {ns : List NodeM} {L : List Nat} (h : Ord ns L) (ms : List NodeM) : Ord (ns ++ ms) L :=
  ⟨h.kids.more ms, by rw [fld_app _ _ _ h.kids.lt]; exact h.kind, by rw [fld_app _ _ _ h.kids.lt]; exact h.up⟩
end Go.Proofs.Ytfbdgcnijoninaa
