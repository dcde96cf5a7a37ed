/-
  An arena's nodes as plain nodes with lists of children: what both tell agrees. Plain, no walk.
-/
import Derived.Test.YtlbkoafeedlfaaaSBah
namespace Go.Proofs.Ytlbkoafeedlfaaa
open Go.RowKit

/-- A node, told without links among its neighbours. -/
structure OneM where
  kind : Int
  space : Int
  name : ByteArray
  data : ByteArray
  system : ByteArray
  inner : Int
  host : Int
  up : Int
  attrs : List AttrM
  kids : List Nat

/-- What no link touches. -/
structure Like (n m : NodeM) : Prop where
  kind : m.kind = n.kind
  space : m.space = n.space
  name : m.name = n.name
  data : m.data = n.data
  system : m.system = n.system
  inner : m.inner = n.inner
  attrs : m.attrs = n.attrs

theorem Like.refl (n : NodeM) : Like n n := ⟨rfl, rfl, rfl, rfl, rfl, rfl, rfl⟩
theorem Like.trans {a b c : NodeM} (h : Like a b) (k : Like b c) : Like a c :=
  ⟨k.kind.trans h.kind, k.space.trans h.space, k.name.trans h.name, k.data.trans h.data, k.system.trans h.system, k.inner.trans h.inner, k.attrs.trans h.attrs⟩

def LikeAll (ns ms : List NodeM) : Prop := ∀ (i : Nat) m, ms[i]? = some m → ∃ n, ns[i]? = some n ∧ Like n m
theorem LikeAll.trans {a b c : List NodeM} (h : LikeAll a b) (k : LikeAll b c) : LikeAll a c := fun i m hm => by
  obtain ⟨n, hn, l1⟩ := k i m hm
  obtain ⟨o, ho, l2⟩ := h i n hn
  exact ⟨o, ho, l2.trans l1⟩
theorem like_upd (ns : List NodeM) (i : Nat) (f : NodeM → NodeM) (hf : ∀ n, Like n (f n)) : LikeAll ns (upd ns i f) := fun j m hm => by
  by_cases e : i = j
  · subst e
    cases h : ns[i]? with
    | none => rw [upd, h] at hm; simp only at hm; rw [h] at hm; cases hm
    | some n => rw [upd_get_same h] at hm; cases hm; exact ⟨n, rfl, hf n⟩
  · rw [upd_get_other ns e] at hm; exact ⟨m, hm, Like.refl m⟩
theorem like_join (ns : List NodeM) (p : Nat) (a b : Int) : LikeAll ns (joinM ns p a b) := by
  have h1 : LikeAll ns (joinA ns p a b) := by
    unfold joinA
    split <;> exact like_upd _ _ _ (fun _ => ⟨rfl, rfl, rfl, rfl, rfl, rfl, rfl⟩)
  have h2 : LikeAll (joinA ns p a b) (joinB (joinA ns p a b) p a b) := by
    unfold joinB
    split <;> exact like_upd _ _ _ (fun _ => ⟨rfl, rfl, rfl, rfl, rfl, rfl, rfl⟩)
  exact h1.trans h2
theorem like_link (ns : List NodeM) (p c : Nat) (b a : Int) : LikeAll ns (linkM ns p c b a) :=
  (like_upd ns c (setParent p) (fun _ => ⟨rfl, rfl, rfl, rfl, rfl, rfl, rfl⟩)).trans ((like_join _ _ _ _).trans (like_join _ _ _ _))
theorem like_unlink (ns : List NodeM) (c : Nat) (n : NodeM) : LikeAll ns (unlinkM ns c n) :=
  (like_join ns _ _ _).trans ((like_upd _ c (setParent (-1)) (fun _ => ⟨rfl, rfl, rfl, rfl, rfl, rfl, rfl⟩)).trans ((like_upd _ c (setPrev (-1)) (fun _ => ⟨rfl, rfl, rfl, rfl, rfl, rfl, rfl⟩)).trans
    (like_upd _ c (setNext (-1)) (fun _ => ⟨rfl, rfl, rfl, rfl, rfl, rfl, rfl⟩))))

/-- What the setters of join leave alone. -/
structure Still (f : NodeM → Int) : Prop where
  first : ∀ b n, f (setFirst b n) = f n
  last : ∀ b n, f (setLast b n) = f n
  prev : ∀ b n, f (setPrev b n) = f n
  next : ∀ b n, f (setNext b n) = f n
theorem still_parent : Still (·.parent) := ⟨fun _ _ => rfl, fun _ _ => rfl, fun _ _ => rfl, fun _ _ => rfl⟩
theorem fld_join {f : NodeM → Int} (hf : Still f) (ns : List NodeM) (p : Nat) (a b : Int) (i : Nat) : fld f (joinM ns p a b) i = fld f ns i := by
  have h1 : fld f (joinB (joinA ns p a b) p a b) i = fld f (joinA ns p a b) i := by
    unfold joinB
    split
    · exact fld_upd_keep f _ _ _ (setLast a) (hf.last a)
    · exact fld_upd_keep f _ _ _ (setPrev a) (hf.prev a)
  have h2 : fld f (joinA ns p a b) i = fld f ns i := by
    unfold joinA
    split
    · exact fld_upd_keep f _ _ _ (setFirst b) (hf.first b)
    · exact fld_upd_keep f _ _ _ (setNext b) (hf.next b)
  rw [joinM, h1, h2]
theorem parent_link (ns : List NodeM) (p c : Nat) (b a : Int) (i : Nat) (hc : c < ns.length) : fld (·.parent) (linkM ns p c b a) i = if i = c then (p : Int) else fld (·.parent) ns i := by
  rw [linkM, fld_join still_parent, fld_join still_parent]
  by_cases h : i = c
  · subst h; rw [if_pos rfl]; exact fld_upd_same _ _ _ _ _ hc (fun _ => rfl)
  · rw [if_neg h]; exact fld_upd_other _ _ (fun e => h e.symm) _
theorem parent_unlink (ns : List NodeM) (c : Nat) (n : NodeM) (i : Nat) (hc : c < ns.length) : fld (·.parent) (unlinkM ns c n) i = if i = c then -1 else fld (·.parent) ns i := by
  rw [unlinkM, fld_upd_keep _ _ _ _ (setNext (-1)) (fun _ => rfl), fld_upd_keep _ _ _ _ (setPrev (-1)) (fun _ => rfl)]
  by_cases h : i = c
  · subst h; rw [if_pos rfl]; exact fld_upd_same _ _ _ _ _ (by rw [joinM_len]; exact hc) (fun _ => rfl)
  · rw [if_neg h, fld_upd_other _ _ (fun e => h e.symm), fld_join still_parent]

/-- Next and prev of a node apart from the two joined. -/
theorem fwd_joinA_other (ns : List NodeM) {p q : Nat} {a b k : Int} (hpq : p ≠ q) (ha : okK ns a) (hk : okK ns k) (hne : k = -1 ∨ k ≠ a) : fwd (joinA ns p a b) q k = fwd ns q k := by
  unfold fwd joinA
  by_cases h1 : k = -1
  · simp only [h1, if_true]
    split
    · exact fld_upd_other _ _ hpq _
    · exact fld_upd_keep _ _ _ _ _ (fun _ => rfl)
  · simp only [h1, if_false]
    split
    · exact fld_upd_keep _ _ _ _ _ (fun _ => rfl)
    · rename_i h2
      exact fld_upd_other _ _ (toNat_ne ha hk h2 h1 (hne.resolve_left h1)) _
theorem bwd_joinB_other (ns : List NodeM) {p q : Nat} {a b k : Int} (hpq : p ≠ q) (hb : okK ns b) (hk : okK ns k) (hne : k = -1 ∨ k ≠ b) : bwd (joinB ns p a b) q k = bwd ns q k := by
  unfold bwd joinB
  by_cases h1 : k = -1
  · simp only [h1, if_true]
    split
    · exact fld_upd_other _ _ hpq _
    · exact fld_upd_keep _ _ _ _ _ (fun _ => rfl)
  · simp only [h1, if_false]
    split
    · exact fld_upd_keep _ _ _ _ _ (fun _ => rfl)
    · rename_i h2
      exact fld_upd_other _ _ (toNat_ne hb hk h2 h1 (hne.resolve_left h1)) _
theorem fwd_join_other (ns : List NodeM) {p q : Nat} {a b k : Int} (hpq : p ≠ q) (ha : okK ns a) (hk : okK ns k) (hne : k = -1 ∨ k ≠ a) : fwd (joinM ns p a b) q k = fwd ns q k := by
  rw [joinM, fwd_joinB, fwd_joinA_other ns hpq ha hk hne]
theorem bwd_join_other (ns : List NodeM) {p q : Nat} {a b k : Int} (hpq : p ≠ q) (hb : okK ns b) (hk : okK ns k) (hne : k = -1 ∨ k ≠ b) : bwd (joinM ns p a b) q k = bwd ns q k := by
  rw [joinM, bwd_joinB_other (joinA ns p a b) hpq (okK_len (joinA_len _ _ _ _) hb) (okK_len (joinA_len _ _ _ _) hk) hne, bwd_joinA]

theorem fwd_link_other {ns : List NodeM} {p q c : Nat} {a b k : Int} (hpq : p ≠ q) (hc : c < ns.length) (ha : okK ns a) (hk : okK ns k) (h1 : k = -1 ∨ k ≠ a) (h2 : k ≠ c) : fwd (linkM ns p c b a) q k = fwd ns q k := by
  have l1 : (upd ns c (setParent p)).length = ns.length := upd_len _ _ _
  have l2 : (joinM (upd ns c (setParent p)) p a c).length = ns.length := by rw [joinM_len, l1]
  rw [linkM, fwd_join_other _ hpq (okK_len l2 (.inr ⟨c, rfl, hc⟩)) (okK_len l2 hk) (.inr h2), fwd_join_other _ hpq (okK_len l1 ha) (okK_len l1 hk) h1, fwd_parent]
theorem bwd_link_other {ns : List NodeM} {p q c : Nat} {a b k : Int} (hpq : p ≠ q) (hc : c < ns.length) (hb : okK ns b) (hk : okK ns k) (h1 : k = -1 ∨ k ≠ b) (h2 : k ≠ c) : bwd (linkM ns p c b a) q k = bwd ns q k := by
  have l1 : (upd ns c (setParent p)).length = ns.length := upd_len _ _ _
  have l2 : (joinM (upd ns c (setParent p)) p a c).length = ns.length := by rw [joinM_len, l1]
  rw [linkM, bwd_join_other _ hpq (okK_len l2 hb) (okK_len l2 hk) h1, bwd_join_other _ hpq (okK_len l1 (.inr ⟨c, rfl, hc⟩)) (okK_len l1 hk) (.inr h2), bwd_parent]
theorem fwd_unlink_other {ns : List NodeM} {p q c : Nat} {n : NodeM} {k : Int} (hpar : n.parent.toNat = p) (hpq : p ≠ q) (ha : okK ns n.prev) (hk : okK ns k) (h1 : k = -1 ∨ k ≠ n.prev) (hne : k ≠ c) : fwd (unlinkM ns c n) q k = fwd ns q k := by
  have e0 : okK (joinM ns n.parent.toNat n.prev n.next) k := okK_len (joinM_len _ _ _ _) hk
  have e1 : okK (upd (joinM ns n.parent.toNat n.prev n.next) c (setParent (-1))) k := okK_len (upd_len _ _ _) e0
  have e2 : okK (upd (upd (joinM ns n.parent.toNat n.prev n.next) c (setParent (-1))) c (setPrev (-1))) k := okK_len (upd_len _ _ _) e1
  rw [unlinkM, fwd_upd_far _ c q k (setNext (-1)) (fun _ => rfl) e2 hne, fwd_upd_far _ c q k (setPrev (-1)) (fun _ => rfl) e1 hne, fwd_upd_far _ c q k (setParent (-1)) (fun _ => rfl) e0 hne, hpar, fwd_join_other ns hpq ha hk h1]
theorem bwd_unlink_other {ns : List NodeM} {p q c : Nat} {n : NodeM} {k : Int} (hpar : n.parent.toNat = p) (hpq : p ≠ q) (hb : okK ns n.next) (hk : okK ns k) (h1 : k = -1 ∨ k ≠ n.next) (hne : k ≠ c) : bwd (unlinkM ns c n) q k = bwd ns q k := by
  have e0 : okK (joinM ns n.parent.toNat n.prev n.next) k := okK_len (joinM_len _ _ _ _) hk
  have e1 : okK (upd (joinM ns n.parent.toNat n.prev n.next) c (setParent (-1))) k := okK_len (upd_len _ _ _) e0
  have e2 : okK (upd (upd (joinM ns n.parent.toNat n.prev n.next) c (setParent (-1))) c (setPrev (-1))) k := okK_len (upd_len _ _ _) e1
  rw [unlinkM, bwd_upd_far _ c q k (setNext (-1)) (fun _ => rfl) e2 hne, bwd_upd_far _ c q k (setPrev (-1)) (fun _ => rfl) e1 hne, bwd_upd_far _ c q k (setParent (-1)) (fun _ => rfl) e0 hne, hpar, bwd_join_other ns hpq hb hk h1]

/-- The children of another node, where what stands ahead and behind of them is as it was. -/
theorem KidsOf.keep {ns ms : List NodeM} {q : Nat} {L : List Nat} (h : KidsOf ns q L) (hlen : ms.length = ns.length) (hf : ∀ k : Int, (k = -1 ∨ ∃ x ∈ L, k = (x : Int)) → fwd ms q k = fwd ns q k ∧ bwd ms q k = bwd ns q k) : KidsOf ms q L := by
  have mem : ∀ z : Int, z ∈ ring L → z = -1 ∨ ∃ x ∈ L, z = (x : Int) := by
    intro z hz
    rw [ring_eq] at hz
    rcases List.mem_cons.1 hz with h1 | h1
    · exact .inl h1
    · rcases List.mem_append.1 h1 with h1 | h1
      · obtain ⟨c, hc, rfl⟩ := mem_ints.1 h1; exact .inr ⟨c, hc, rfl⟩
      · exact .inl (by simpa using h1)
  refine ⟨by rw [hlen]; exact h.lt, Ch_mono h.chain (fun x y hx hy hr => ⟨?_, ?_⟩), h.nodup, fun c hc => by rw [hlen]; exact h.mem c hc⟩
  · rw [(hf x (mem x (List.dropLast_subset _ hx))).1]; exact hr.1
  · rw [(hf y (mem y (List.mem_of_mem_tail hy))).2]; exact hr.2

/-- Both tell the same of a node, but for its neighbours. -/
structure Same (n : NodeM) (o : OneM) : Prop where
  kind : n.kind = o.kind
  space : n.space = o.space
  name : n.name = o.name
  data : n.data = o.data
  system : n.system = o.system
  inner : n.inner = o.inner
  attrs : n.attrs = o.attrs
  up : n.parent = o.up

def upO (os : List OneM) (i : Nat) : Option Int := (os[i]?).map fun o => if o.up = -1 then o.host else o.up

structure Sim (ns : List NodeM) (os : List OneM) : Prop where
  len : ns.length = os.length
  same : ∀ (i : Nat) n o, ns[i]? = some n → os[i]? = some o → Same n o
  kids : ∀ (i : Nat) o, os[i]? = some o → KidsOf ns i o.kids
  down : ∀ (i : Nat) o (c : Nat), os[i]? = some o → c ∈ o.kids → ∃ m, os[c]? = some m ∧ m.up = (i : Int)
  up : ∀ (i : Nat) o, os[i]? = some o → o.up = -1 ∨ ∃ (p : Nat) (m : OneM), o.up = (p : Int) ∧ os[p]? = some m ∧ i ∈ m.kids
  alone : ∀ (i : Nat) o, os[i]? = some o → o.kind = 0 ∨ o.kind = 5 → o.up = -1
  loose : ∀ (i : Nat) n, ns[i]? = some n → n.parent = -1 → n.prev = -1 ∧ n.next = -1
  inner : ∀ (i : Nat) o, os[i]? = some o → o.inner = -1 ∨ (o.inner = (i : Int) + 1 ∧ ∃ m, os[i + 1]? = some m ∧ m.host = (i : Int))
  host : ∀ (i : Nat) o, os[i]? = some o → o.host = -1 ∨ (o.kind = 5 ∧ ∃ (h : Nat) (m : OneM), o.host = (h : Int) ∧ i = h + 1 ∧ os[h]? = some m ∧ m.inner = (i : Int))
  ends : ∀ i, i < os.length → ∃ path, PathOf (upO os) i path

theorem Sim.get {ns : List NodeM} {os : List OneM} (h : Sim ns os) {i : Nat} {o : OneM} (ho : os[i]? = some o) : ∃ n, ns[i]? = some n ∧ Same n o := by
  have hlt : i < ns.length := by rw [h.len]; exact (List.getElem?_eq_some_iff.1 ho).1
  exact ⟨_, List.getElem?_eq_getElem hlt, h.same i _ o (List.getElem?_eq_getElem hlt) ho⟩
theorem Sim.getO {ns : List NodeM} {os : List OneM} (h : Sim ns os) {i : Nat} {n : NodeM} (hn : ns[i]? = some n) : ∃ o, os[i]? = some o ∧ Same n o := by
  have hlt : i < os.length := by rw [← h.len]; exact (List.getElem?_eq_some_iff.1 hn).1
  exact ⟨_, List.getElem?_eq_getElem hlt, h.same i n _ hn (List.getElem?_eq_getElem hlt)⟩

theorem Sim.hostM {ns : List NodeM} {os : List OneM} (h : Sim ns os) {i : Nat} {o : OneM} (ho : os[i]? = some o) : hostM ns i = o.host := by
  have hlt : i < ns.length := by rw [h.len]; exact (List.getElem?_eq_some_iff.1 ho).1
  unfold Ytlbkoafeedlfaaa.hostM
  rcases h.host i o ho with hh | ⟨_, k, m, hk, rfl, hm, hi⟩
  · rw [hh, if_neg]
    rintro ⟨h1, _, h3⟩
    have h1' : 0 < i := by omega
    obtain ⟨n, hn⟩ : ∃ n, ns[i - 1]? = some n := ⟨_, List.getElem?_eq_getElem (by omega)⟩
    have e : ((i : Int)).toNat - 1 = i - 1 := by omega
    rw [e, hn] at h3
    simp at h3
    obtain ⟨m, hm, sm⟩ := h.getO hn
    rcases h.inner _ m hm with e1 | ⟨_, m2, hm2, e2⟩
    · have := sm.inner; omega
    · rw [show i - 1 + 1 = i by omega, ho] at hm2
      cases hm2; omega
  · obtain ⟨n, hn, sm⟩ := h.get hm
    rw [hk, if_pos]
    · omega
    · refine ⟨by omega, by omega, ?_⟩
      rw [show (((k + 1 : Nat) : Int)).toNat - 1 = k by omega, hn]
      have := sm.inner
      simp; omega

theorem Sim.upF {ns : List NodeM} {os : List OneM} (h : Sim ns os) : upF ns = upO os := by
  funext i
  unfold Ytlbkoafeedlfaaa.upF upO
  by_cases hi : i < ns.length
  · obtain ⟨n, hn⟩ : ∃ n, ns[i]? = some n := ⟨_, List.getElem?_eq_getElem hi⟩
    obtain ⟨o, ho, sm⟩ := h.getO hn
    rw [hn, ho]
    simp only [Option.map_some, overM, h.hostM ho, sm.kind, sm.up]
    congr 1
    by_cases hk : o.kind = 5
    · rw [if_pos hk, if_pos (h.alone i o ho (.inr hk))]
    · rw [if_neg hk]
      by_cases hu : o.up = -1
      · rw [if_pos hu]
        rcases h.host i o ho with hh | ⟨hh, _⟩
        · rw [hu, hh]
        · exact absurd hh hk
      · rw [if_neg hu]
  · rw [List.getElem?_eq_none (by omega), List.getElem?_eq_none (by rw [← h.len]; omega)]; rfl
end Go.Proofs.Ytlbkoafeedlfaaa
