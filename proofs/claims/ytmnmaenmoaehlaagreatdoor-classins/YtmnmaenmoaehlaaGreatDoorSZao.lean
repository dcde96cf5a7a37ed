/-
  
-/
import Derived.Test.YtmnmaenmoaehlaaGreatDoorSZan
import Derived.Test.YtmnmaenmoaehlaaGreatDoorSZad
import Derived.RegionIn
import Derived.RangeFuncBox
import Derived.Maps.AppendAt
import Derived.Test.YtmnmaenmoaehlaaGreatDoorSZac
namespace Go.Proofs.YtmnmaenmoaehlaaGreatDoor
open Go.RowKit Go.Shelf
attribute [local go_sem] Oper.semAt_some

def nextF (ns : List NodeM) (i : Nat) : Option Int := (ns[i]?).map (·.next)

end Go.Proofs.YtmnmaenmoaehlaaGreatDoor
/-
  The children of one node as a ring of neighbours: what join does to it, a child put in, a child taken out. No walk here.
-/
namespace Go.Proofs.YtmnmaenmoaehlaaGreatDoor

def fld (f : NodeM → Int) (ns : List NodeM) (i : Nat) : Int := ((ns[i]?).map f).getD (-1)

theorem fld_of {f : NodeM → Int} {ns : List NodeM} {i : Nat} {n : NodeM} (h : ns[i]? = some n) : fld f ns i = f n := by simp [fld, h]

theorem fld_upd_same (f : NodeM → Int) (ns : List NodeM) (i : Nat) (F : NodeM → NodeM) (v : Int) (hi : i < ns.length) (hv : ∀ n, f (F n) = v) : fld f (upd ns i F) i = v := by
  have hn : ns[i]? = some ns[i] := List.getElem?_eq_getElem hi
  rw [fld, upd_get_same hn]; simp [hv]
theorem fld_upd_other (f : NodeM → Int) (ns : List NodeM) {i j : Nat} (h : i ≠ j) (F : NodeM → NodeM) : fld f (upd ns i F) j = fld f ns j := by rw [fld, upd_get_other ns h]; rfl
theorem fld_upd_keep (f : NodeM → Int) (ns : List NodeM) (i j : Nat) (F : NodeM → NodeM) (hF : ∀ n, f (F n) = f n) : fld f (upd ns i F) j = fld f ns j := by
  by_cases e : i = j
  · subst e
    cases h : ns[i]? with
    | none => simp [fld, upd, h]
    | some n => rw [fld, upd_get_same h]; simp [fld, h, hF]
  · exact fld_upd_other f ns e F

/-- The next one of k among the children of p; -1 is ahead of the first, and behind the last. -/
def fwd (ns : List NodeM) (p : Nat) (k : Int) : Int := if k = -1 then fld (·.first) ns p else fld (·.next) ns k.toNat
def bwd (ns : List NodeM) (p : Nat) (k : Int) : Int := if k = -1 then fld (·.last) ns p else fld (·.prev) ns k.toNat

theorem okK_nat {ns : List NodeM} {k : Int} (h : okK ns k) (hk : k ≠ -1) : k.toNat < ns.length ∧ (k.toNat : Int) = k := by
  rcases h with h | ⟨i, rfl, hi⟩
  · exact absurd h hk
  · exact ⟨by simpa using hi, by simp⟩

theorem toNat_ne {ns : List NodeM} {a k : Int} (ha : okK ns a) (hk : okK ns k) (h1 : a ≠ -1) (h2 : k ≠ -1) (hne : k ≠ a) : a.toNat ≠ k.toNat := by
  have e1 := (okK_nat ha h1).2
  have e2 := (okK_nat hk h2).2
  intro e; apply hne; rw [← e1, ← e2, e]

theorem fwd_joinA {ns : List NodeM} {p : Nat} {a b : Int} (hp : p < ns.length) (ha : okK ns a) {k : Int} (hk : okK ns k) : fwd (joinA ns p a b) p k = if k = a then b else fwd ns p k := by
  unfold joinA fwd
  by_cases h1 : a = -1
  · rw [if_pos h1]
    by_cases h2 : k = -1
    · rw [if_pos h2, if_pos (by rw [h1, h2])]; exact fld_upd_same _ _ _ _ _ hp (fun _ => rfl)
    · rw [if_neg h2, if_neg (by rw [h1]; exact h2), if_neg h2]; exact fld_upd_keep _ _ _ _ _ (fun _ => rfl)
  · rw [if_neg h1]
    by_cases h2 : k = -1
    · rw [if_pos h2, if_neg (by rw [h2]; exact fun e => h1 e.symm), if_pos h2]; exact fld_upd_keep _ _ _ _ _ (fun _ => rfl)
    · rw [if_neg h2, if_neg h2]
      by_cases h3 : k = a
      · rw [if_pos h3, h3]; exact fld_upd_same _ _ _ _ _ (okK_nat ha h1).1 (fun _ => rfl)
      · rw [if_neg h3]; exact fld_upd_other _ _ (toNat_ne ha hk h1 h2 h3) _

theorem bwd_joinA (ns : List NodeM) (p : Nat) (a b k : Int) (q : Nat) : bwd (joinA ns p a b) q k = bwd ns q k := by
  unfold joinA bwd
  split <;> split <;> exact fld_upd_keep _ _ _ _ _ (fun _ => rfl)

theorem bwd_joinB {ns : List NodeM} {p : Nat} {a b : Int} (hp : p < ns.length) (hb : okK ns b) {k : Int} (hk : okK ns k) : bwd (joinB ns p a b) p k = if k = b then a else bwd ns p k := by
  unfold joinB bwd
  by_cases h1 : b = -1
  · rw [if_pos h1]
    by_cases h2 : k = -1
    · rw [if_pos h2, if_pos (by rw [h1, h2])]; exact fld_upd_same _ _ _ _ _ hp (fun _ => rfl)
    · rw [if_neg h2, if_neg (by rw [h1]; exact h2), if_neg h2]; exact fld_upd_keep _ _ _ _ _ (fun _ => rfl)
  · rw [if_neg h1]
    by_cases h2 : k = -1
    · rw [if_pos h2, if_neg (by rw [h2]; exact fun e => h1 e.symm), if_pos h2]; exact fld_upd_keep _ _ _ _ _ (fun _ => rfl)
    · rw [if_neg h2, if_neg h2]
      by_cases h3 : k = b
      · rw [if_pos h3, h3]; exact fld_upd_same _ _ _ _ _ (okK_nat hb h1).1 (fun _ => rfl)
      · rw [if_neg h3]; exact fld_upd_other _ _ (toNat_ne hb hk h1 h2 h3) _

theorem fwd_joinB (ns : List NodeM) (p : Nat) (a b k : Int) (q : Nat) : fwd (joinB ns p a b) q k = fwd ns q k := by
  unfold joinB fwd
  split <;> split <;> exact fld_upd_keep _ _ _ _ _ (fun _ => rfl)

theorem fwd_join {ns : List NodeM} {p : Nat} {a b : Int} (hp : p < ns.length) (ha : okK ns a) {k : Int} (hk : okK ns k) : fwd (joinM ns p a b) p k = if k = a then b else fwd ns p k := by
  rw [joinM, fwd_joinB, fwd_joinA hp ha hk]
theorem bwd_join {ns : List NodeM} {p : Nat} {a b : Int} (hp : p < ns.length) (hb : okK ns b) {k : Int} (hk : okK ns k) : bwd (joinM ns p a b) p k = if k = b then a else bwd ns p k := by
  rw [joinM, bwd_joinB (by rw [joinA_len]; exact hp) (okK_len (joinA_len _ _ _ _) hb) (okK_len (joinA_len _ _ _ _) hk), bwd_joinA]

/-- A list whose neighbours are told by R. -/
def Ch (R : Int → Int → Prop) : List Int → Prop
  | u :: v :: r => R u v ∧ Ch R (v :: r)
  | _ => True

theorem Ch_append {R : Int → Int → Prop} {u v : Int} {Y : List Int} : ∀ {X : List Int}, Ch R (X ++ u :: v :: Y) ↔ Ch R (X ++ [u]) ∧ R u v ∧ Ch R (v :: Y)
  | [] => by simp [Ch]
  | [x] => by simp [Ch]
  | x :: y :: X => by
    have := Ch_append (R := R) (u := u) (v := v) (Y := Y) (X := y :: X)
    simp only [List.cons_append, Ch] at this ⊢
    rw [this]; simp only [and_assoc]

theorem Ch_mono {R S : Int → Int → Prop} : ∀ {l : List Int}, Ch R l → (∀ x y, x ∈ l.dropLast → y ∈ l.tail → R x y → S x y) → Ch S l
  | [], _, _ => trivial
  | [_], _, _ => trivial
  | u :: v :: r, h, hs => ⟨hs u v (by simp) (by simp) h.1, Ch_mono h.2 fun x y hx hy hr => hs x y (by simp [hx]) (by simp; right; exact (by simpa using hy)) hr⟩

def ring (L : List Nat) : List Int := -1 :: (L.map (fun (x : Nat) => (x : Int)) ++ [-1])

def RN (ns : List NodeM) (p : Nat) (u v : Int) : Prop := fwd ns p u = v ∧ bwd ns p v = u

/-- L are the children of p, in order. -/
structure KidsOf (ns : List NodeM) (p : Nat) (L : List Nat) : Prop where
  lt : p < ns.length
  chain : Ch (RN ns p) (ring L)
  nodup : L.Nodup
  mem : ∀ c ∈ L, c < ns.length

def lastK (A : List Nat) : Int := match A.getLast? with | some x => x | none => -1
def headI : List Nat → Int
  | [] => -1
  | x :: _ => x

def ints (L : List Nat) : List Int := L.map fun (x : Nat) => (x : Int)

theorem mem_ints {L : List Nat} {x : Int} : x ∈ ints L ↔ ∃ c ∈ L, (c : Int) = x := by simp [ints]
theorem neg_not_ints {L : List Nat} : (-1 : Int) ∉ ints L := by
  intro h; obtain ⟨c, _, hc⟩ := mem_ints.1 h; omega
theorem ints_nodup {L : List Nat} (h : L.Nodup) : (ints L).Nodup := by
  unfold ints
  unfold List.Nodup at *
  rw [List.pairwise_map]
  exact h.imp (fun hne e => hne (by omega))
theorem ints_append (A B : List Nat) : ints (A ++ B) = ints A ++ ints B := by simp [ints]

/-- What stands ahead of a place, cut at its last one. -/
theorem cut_left (A : List Nat) : ∃ X, -1 :: ints A = X ++ [lastK A] := by
  rcases List.eq_nil_or_concat A with rfl | ⟨A', x, rfl⟩
  · exact ⟨[], rfl⟩
  · exact ⟨-1 :: ints A', by simp [ints, lastK]⟩
theorem cut_right (B : List Nat) : ∃ Y, ints B ++ [-1] = headI B :: Y := by
  cases B with
  | nil => exact ⟨[], rfl⟩
  | cons x B => exact ⟨ints B ++ [-1], by simp [ints, headI]⟩

theorem ring_eq (L : List Nat) : ring L = -1 :: (ints L ++ [-1]) := rfl

theorem ring_cut {A B : List Nat} {X Y : List Int} (hX : -1 :: ints A = X ++ [lastK A]) (hY : ints B ++ [-1] = headI B :: Y) : ring (A ++ B) = X ++ lastK A :: headI B :: Y := by
  rw [ring_eq, ints_append, List.append_assoc, hY, ← List.cons_append, hX]; simp

theorem ring_cut3 {A B : List Nat} {c : Nat} {X Y : List Int} (hX : -1 :: ints A = X ++ [lastK A]) (hY : ints B ++ [-1] = headI B :: Y) : ring (A ++ c :: B) = X ++ lastK A :: (c : Int) :: headI B :: Y := by
  have : ints (A ++ c :: B) ++ [-1] = ints A ++ (c : Int) :: (ints B ++ [-1]) := by simp [ints]
  rw [ring_eq, this, hY, ← List.cons_append, hX]; simp

theorem path_of_ch {ns : List NodeM} {p : Nat} : ∀ {S : List Nat} {u : Int}, (∀ c ∈ S, c < ns.length) → Ch (RN ns p) (u :: (ints S ++ [-1])) → PathOf (nextF ns) (fwd ns p u) S
  | [], u, _, h => by simpa [ints, Ch, RN, PathOf] using (show fwd ns p u = -1 from h.1.1)
  | c :: S, u, hm, h => by
    have h1 : fwd ns p u = c := h.1.1
    have hc := hm c (by simp)
    have hn : ns[c]? = some ns[c] := List.getElem?_eq_getElem hc
    have hf : fwd ns p (c : Int) = (ns[c]).next := by
      have : ¬ ((c : Int) = -1) := by omega
      simp [fwd, this, fld, hn]
    refine ⟨h1, (ns[c]).next, by simp [nextF, hn], ?_⟩
    rw [← hf]
    exact path_of_ch (fun d hd => hm d (by simp [hd])) h.2

theorem KidsOf.path {ns : List NodeM} {p : Nat} {L : List Nat} (h : KidsOf ns p L) {n : NodeM} (hn : ns[p]? = some n) : PathOf (nextF ns) n.first L := by
  have := path_of_ch (u := -1) h.mem h.chain
  simpa [fwd, fld, hn] using this

theorem lastI_mem {A : List Nat} : lastK A = -1 ∨ ∃ x ∈ A, lastK A = x := by
  rcases List.eq_nil_or_concat A with rfl | ⟨A', x, rfl⟩
  · exact .inl rfl
  · exact .inr ⟨x, by simp, by simp [lastK]⟩
theorem headI_mem {B : List Nat} : headI B = -1 ∨ ∃ x ∈ B, headI B = x := by
  cases B with
  | nil => exact .inl rfl
  | cons x B => exact .inr ⟨x, by simp, rfl⟩

theorem okK_of_mem {ns : List NodeM} {x : Int} (h : x = -1 ∨ ∃ c : Nat, x = c ∧ c < ns.length) : okK ns x := h

/-- A place among the children, all that is known of it. -/
theorem cut_facts {ns : List NodeM} {A B : List Nat} (hn : (A ++ B).Nodup) (hm : ∀ c ∈ A ++ B, c < ns.length) {X Y : List Int} (hX : -1 :: ints A = X ++ [lastK A]) (hY : ints B ++ [-1] = headI B :: Y) :
    okK ns (lastK A) ∧ okK ns (headI B) ∧ (∀ x ∈ X, okK ns x ∧ x ≠ lastK A) ∧ (∀ y ∈ Y, okK ns y ∧ y ≠ headI B) ∧
      (∀ y ∈ (X ++ [lastK A]).tail, okK ns y ∧ y ≠ headI B) ∧ (∀ x ∈ (headI B :: Y).dropLast, okK ns x ∧ x ≠ lastK A) := by
  have okA : ∀ x ∈ ints A, okK ns x := fun x hx => by obtain ⟨c, hc, rfl⟩ := mem_ints.1 hx; exact .inr ⟨c, rfl, hm c (by simp [hc])⟩
  have okB : ∀ x ∈ ints B, okK ns x := fun x hx => by obtain ⟨c, hc, rfl⟩ := mem_ints.1 hx; exact .inr ⟨c, rfl, hm c (by simp [hc])⟩
  have nA : (-1 :: ints A).Nodup := List.nodup_cons.2 ⟨neg_not_ints, ints_nodup (List.nodup_append.1 hn).1⟩
  have nB : (ints B ++ [-1]).Nodup := by
    rw [List.nodup_append]
    exact ⟨ints_nodup (List.nodup_append.1 hn).2.1, by simp, fun a ha b hb => by simp at hb; subst hb; exact fun e => neg_not_ints (e ▸ ha)⟩
  have dis : ∀ x ∈ ints A, ∀ y ∈ ints B, x ≠ y := by
    intro x hx y hy e
    obtain ⟨c, hc, rfl⟩ := mem_ints.1 hx
    obtain ⟨d, hd, e'⟩ := mem_ints.1 hy
    have : c = d := by omega
    exact (List.nodup_append.1 hn).2.2 c hc d hd this
  have lA : lastK A = -1 ∨ lastK A ∈ ints A := by
    rcases lastI_mem (A := A) with h | ⟨x, hx, h⟩
    · exact .inl h
    · exact .inr (by rw [h]; exact mem_ints.2 ⟨x, hx, rfl⟩)
  have hB : headI B = -1 ∨ headI B ∈ ints B := by
    rcases headI_mem (B := B) with h | ⟨x, hx, h⟩
    · exact .inl h
    · exact .inr (by rw [h]; exact mem_ints.2 ⟨x, hx, rfl⟩)
  have mX : ∀ x ∈ X, x = -1 ∨ x ∈ ints A := fun x hx => by
    have : x ∈ -1 :: ints A := by rw [hX]; simp [hx]
    simpa using this
  have mY : ∀ y ∈ Y, y = -1 ∨ y ∈ ints B := fun y hy => by
    have : y ∈ ints B ++ [-1] := by rw [hY]; simp [hy]
    rcases List.mem_append.1 this with h | h
    · exact .inr h
    · exact .inl (by simpa using h)
  have nX : ∀ x ∈ X, x ≠ lastK A := by
    rw [hX] at nA
    intro x hx e
    exact (List.nodup_append.1 nA).2.2 x hx (lastK A) (by simp) e
  have nY : ∀ y ∈ Y, y ≠ headI B := by
    rw [hY] at nB
    intro y hy e
    exact (List.nodup_cons.1 nB).1 (e ▸ hy)
  refine ⟨?_, ?_, fun x hx => ⟨?_, nX x hx⟩, fun y hy => ⟨?_, nY y hy⟩, ?_, ?_⟩
  · rcases lA with h | h
    · exact .inl h
    · exact okA _ h
  · rcases hB with h | h
    · exact .inl h
    · exact okB _ h
  · rcases mX x hx with h | h
    · exact .inl h
    · exact okA _ h
  · rcases mY y hy with h | h
    · exact .inl h
    · exact okB _ h
  · intro y hy
    rw [← hX] at hy
    have hy' : y ∈ ints A := by simpa using hy
    refine ⟨okA _ hy', fun e => ?_⟩
    rcases hB with h | h
    · rw [h] at e; exact neg_not_ints (e ▸ hy')
    · exact dis y hy' _ h e
  · intro x hx
    rw [← hY, List.dropLast_concat] at hx
    refine ⟨okB _ hx, fun e => ?_⟩
    rcases lA with h | h
    · rw [h] at e; exact neg_not_ints (e ▸ hx)
    · exact dis _ h x hx e.symm

theorem fwd_parent (ns : List NodeM) (c p q : Nat) (k : Int) : fwd (upd ns c (setParent p)) q k = fwd ns q k := by
  unfold fwd; split <;> exact fld_upd_keep _ _ _ _ _ (fun _ => rfl)
theorem bwd_parent (ns : List NodeM) (c p q : Nat) (k : Int) : bwd (upd ns c (setParent p)) q k = bwd ns q k := by
  unfold bwd; split <;> exact fld_upd_keep _ _ _ _ _ (fun _ => rfl)

theorem linkM_len (ns : List NodeM) (p c : Nat) (b a : Int) : (linkM ns p c b a).length = ns.length := by rw [linkM, joinM_len, joinM_len, upd_len]

theorem fwd_link {ns : List NodeM} {p c : Nat} {a b : Int} (hp : p < ns.length) (hc : c < ns.length) (ha : okK ns a) {k : Int} (hk : okK ns k) :
    fwd (linkM ns p c b a) p k = if k = c then b else if k = a then (c : Int) else fwd ns p k := by
  have e1 : ∀ {x : Int}, okK ns x → okK (upd ns c (setParent p)) x := fun h => okK_len (upd_len _ _ _) h
  have e2 : ∀ {x : Int}, okK ns x → okK (joinM (upd ns c (setParent p)) p a c) x := fun h => okK_len (by rw [joinM_len, upd_len]) h
  rw [linkM, fwd_join (by rw [joinM_len, upd_len]; exact hp) (e2 (.inr ⟨c, rfl, hc⟩)) (e2 hk), fwd_join (by rw [upd_len]; exact hp) (e1 ha) (e1 hk), fwd_parent]
theorem bwd_link {ns : List NodeM} {p c : Nat} {a b : Int} (hp : p < ns.length) (hc : c < ns.length) (hb : okK ns b) {k : Int} (hk : okK ns k) :
    bwd (linkM ns p c b a) p k = if k = b then (c : Int) else if k = c then a else bwd ns p k := by
  have e1 : ∀ {x : Int}, okK ns x → okK (upd ns c (setParent p)) x := fun h => okK_len (upd_len _ _ _) h
  have e2 : ∀ {x : Int}, okK ns x → okK (joinM (upd ns c (setParent p)) p a c) x := fun h => okK_len (by rw [joinM_len, upd_len]) h
  rw [linkM, bwd_join (by rw [joinM_len, upd_len]; exact hp) (e2 hb) (e2 hk), bwd_join (by rw [upd_len]; exact hp) (e1 (.inr ⟨c, rfl, hc⟩)) (e1 hk), bwd_parent]

/-- A child put in between. -/
theorem KidsOf.insert {ns : List NodeM} {p : Nat} {A B : List Nat} (h : KidsOf ns p (A ++ B)) {c : Nat} (hc : c < ns.length) (hcn : c ∉ A ++ B) : KidsOf (linkM ns p c (headI B) (lastK A)) p (A ++ c :: B) := by
  obtain ⟨X, hX⟩ := cut_left A
  obtain ⟨Y, hY⟩ := cut_right B
  obtain ⟨ok1, ok2, fX, fY, fXt, fYd⟩ := cut_facts h.nodup h.mem hX hY
  have hch := h.chain
  rw [ring_cut hX hY, Ch_append] at hch
  obtain ⟨ch1, r, ch2⟩ := hch
  have notc : ∀ x : Int, x = -1 ∨ x ∈ ints (A ++ B) → x ≠ c := by
    intro x hx e
    rcases hx with h1 | h1
    · omega
    · obtain ⟨d, hd, e'⟩ := mem_ints.1 h1
      have : d = c := by omega
      exact hcn (this ▸ hd)
  have ca : lastK A ≠ (c : Int) := by
    apply notc
    rcases lastI_mem (A := A) with h1 | ⟨x, hx, h1⟩
    · exact .inl h1
    · exact .inr (by rw [h1]; exact mem_ints.2 ⟨x, by simp [hx], rfl⟩)
  have cb : headI B ≠ (c : Int) := by
    apply notc
    rcases headI_mem (B := B) with h1 | ⟨x, hx, h1⟩
    · exact .inl h1
    · exact .inr (by rw [h1]; exact mem_ints.2 ⟨x, by simp [hx], rfl⟩)
  have cX : ∀ x ∈ X ++ [lastK A], x ≠ (c : Int) := by
    intro x hx
    rw [← hX] at hx
    apply notc
    rcases List.mem_cons.1 hx with h1 | h1
    · exact .inl h1
    · exact .inr (by rw [ints_append]; simp [h1])
  have cY : ∀ y ∈ headI B :: Y, y ≠ (c : Int) := by
    intro y hy
    rw [← hY] at hy
    apply notc
    rcases List.mem_append.1 hy with h1 | h1
    · exact .inr (by rw [ints_append]; simp [h1])
    · exact .inl (by simpa using h1)
  refine ⟨by rw [linkM_len]; exact h.lt, ?_, ?_, ?_⟩
  · rw [ring_cut3 hX hY, Ch_append]
    refine ⟨Ch_mono ch1 ?_, ⟨?_, ?_⟩, ⟨?_, ?_⟩, Ch_mono ch2 ?_⟩
    · intro x y hx hy hr
      rw [List.dropLast_concat] at hx
      have h1 := fX x hx
      have h2 := fXt y hy
      refine ⟨?_, ?_⟩
      · rw [fwd_link h.lt hc ok1 h1.1, if_neg (cX x (by simp [hx])), if_neg h1.2]; exact hr.1
      · rw [bwd_link h.lt hc ok2 h2.1, if_neg h2.2, if_neg (cX y (List.mem_of_mem_tail hy))]; exact hr.2
    · rw [fwd_link h.lt hc ok1 ok1, if_neg ca, if_pos rfl]
    · rw [bwd_link h.lt hc ok2 (.inr ⟨c, rfl, hc⟩), if_neg (fun e => cb e.symm), if_pos rfl]
    · rw [fwd_link h.lt hc ok1 (.inr ⟨c, rfl, hc⟩), if_pos rfl]
    · rw [bwd_link h.lt hc ok2 ok2, if_pos rfl]
    · intro x y hx hy hr
      have h1 := fYd x hx
      have hy' : y ∈ Y := by simpa using hy
      have h2 := fY y hy'
      refine ⟨?_, ?_⟩
      · rw [fwd_link h.lt hc ok1 h1.1, if_neg (cY x (List.dropLast_subset _ hx)), if_neg h1.2]; exact hr.1
      · rw [bwd_link h.lt hc ok2 h2.1, if_neg h2.2, if_neg (cY y (by simp [hy']))]; exact hr.2
  · have hn := h.nodup
    rw [List.nodup_append] at hn ⊢
    obtain ⟨n1, n2, n3⟩ := hn
    refine ⟨n1, List.nodup_cons.2 ⟨fun hb => hcn (by simp [hb]), n2⟩, ?_⟩
    intro x hx y hy
    rcases List.mem_cons.1 hy with rfl | hy
    · exact fun e => hcn (by simp [← e, hx])
    · exact n3 x hx y hy
  · intro d hd
    rw [linkM_len]
    rcases List.mem_append.1 hd with h1 | h1
    · exact h.mem d (by simp [h1])
    · rcases List.mem_cons.1 h1 with rfl | h1
      · exact hc
      · exact h.mem d (by simp [h1])

theorem unlinkM_len (ns : List NodeM) (c : Nat) (n : NodeM) : (unlinkM ns c n).length = ns.length := by rw [unlinkM, upd_len, upd_len, upd_len, joinM_len]

theorem fwd_upd_far (ns : List NodeM) (c p : Nat) (k : Int) (F : NodeM → NodeM) (hf : ∀ n, (F n).first = n.first) (hk : okK ns k) (hne : k ≠ c) : fwd (upd ns c F) p k = fwd ns p k := by
  unfold fwd
  split
  · exact fld_upd_keep _ _ _ _ _ hf
  · rename_i h1
    have e := (okK_nat hk h1).2
    exact fld_upd_other _ _ (fun e' => hne (by rw [← e, ← e'])) _
theorem bwd_upd_far (ns : List NodeM) (c p : Nat) (k : Int) (F : NodeM → NodeM) (hf : ∀ n, (F n).last = n.last) (hk : okK ns k) (hne : k ≠ c) : bwd (upd ns c F) p k = bwd ns p k := by
  unfold bwd
  split
  · exact fld_upd_keep _ _ _ _ _ hf
  · rename_i h1
    have e := (okK_nat hk h1).2
    exact fld_upd_other _ _ (fun e' => hne (by rw [← e, ← e'])) _

theorem fwd_unlink {ns : List NodeM} {p c : Nat} {n : NodeM} (hp : p < ns.length) (hpar : n.parent.toNat = p) (ha : okK ns n.prev) {k : Int} (hk : okK ns k) (hne : k ≠ c) :
    fwd (unlinkM ns c n) p k = if k = n.prev then n.next else fwd ns p k := by
  have e0 : okK (joinM ns n.parent.toNat n.prev n.next) k := okK_len (joinM_len _ _ _ _) hk
  have e1 : okK (upd (joinM ns n.parent.toNat n.prev n.next) c (setParent (-1))) k := okK_len (upd_len _ _ _) e0
  have e2 : okK (upd (upd (joinM ns n.parent.toNat n.prev n.next) c (setParent (-1))) c (setPrev (-1))) k := okK_len (upd_len _ _ _) e1
  rw [unlinkM, fwd_upd_far _ c p k (setNext (-1)) (fun _ => rfl) e2 hne, fwd_upd_far _ c p k (setPrev (-1)) (fun _ => rfl) e1 hne, fwd_upd_far _ c p k (setParent (-1)) (fun _ => rfl) e0 hne, hpar, fwd_join hp ha hk]
theorem bwd_unlink {ns : List NodeM} {p c : Nat} {n : NodeM} (hp : p < ns.length) (hpar : n.parent.toNat = p) (hb : okK ns n.next) {k : Int} (hk : okK ns k) (hne : k ≠ c) :
    bwd (unlinkM ns c n) p k = if k = n.next then n.prev else bwd ns p k := by
  have e0 : okK (joinM ns n.parent.toNat n.prev n.next) k := okK_len (joinM_len _ _ _ _) hk
  have e1 : okK (upd (joinM ns n.parent.toNat n.prev n.next) c (setParent (-1))) k := okK_len (upd_len _ _ _) e0
  have e2 : okK (upd (upd (joinM ns n.parent.toNat n.prev n.next) c (setParent (-1))) c (setPrev (-1))) k := okK_len (upd_len _ _ _) e1
  rw [unlinkM, bwd_upd_far _ c p k (setNext (-1)) (fun _ => rfl) e2 hne, bwd_upd_far _ c p k (setPrev (-1)) (fun _ => rfl) e1 hne, bwd_upd_far _ c p k (setParent (-1)) (fun _ => rfl) e0 hne, hpar, bwd_join hp hb hk]

/-- A child's neighbours. -/
theorem KidsOf.nbrs {ns : List NodeM} {p : Nat} {A B : List Nat} {c : Nat} (h : KidsOf ns p (A ++ c :: B)) {n : NodeM} (hn : ns[c]? = some n) : n.prev = lastK A ∧ n.next = headI B := by
  obtain ⟨X, hX⟩ := cut_left A
  obtain ⟨Y, hY⟩ := cut_right B
  have hch := h.chain
  rw [ring_cut3 hX hY, Ch_append] at hch
  obtain ⟨_, r1, r2, _⟩ := hch
  have hc : ¬ ((c : Int) = -1) := by omega
  have e1 := r1.2
  have e2 := r2.1
  simp [bwd, hc, fld, hn] at e1
  simp [fwd, hc, fld, hn] at e2
  exact ⟨e1, e2⟩

/-- A child taken out. -/
theorem KidsOf.remove {ns : List NodeM} {p : Nat} {A B : List Nat} {c : Nat} (h : KidsOf ns p (A ++ c :: B)) {n : NodeM} (hn : ns[c]? = some n) (hpar : n.parent.toNat = p) : KidsOf (unlinkM ns c n) p (A ++ B) := by
  obtain ⟨e1, e2⟩ := h.nbrs hn
  obtain ⟨X, hX⟩ := cut_left A
  obtain ⟨Y, hY⟩ := cut_right B
  have hnd := h.nodup
  have hn' : (A ++ B).Nodup := by
    rw [List.nodup_append] at hnd ⊢
    obtain ⟨n1, n2, n3⟩ := hnd
    exact ⟨n1, (List.nodup_cons.1 n2).2, fun x hx y hy => n3 x hx y (by simp [hy])⟩
  have hcn : c ∉ A ++ B := by
    rw [List.nodup_append] at hnd
    obtain ⟨n1, n2, n3⟩ := hnd
    intro hc
    rcases List.mem_append.1 hc with h1 | h1
    · exact n3 c h1 c (by simp) rfl
    · exact (List.nodup_cons.1 n2).1 h1
  have hm' : ∀ d ∈ A ++ B, d < ns.length := fun d hd => h.mem d (by rcases List.mem_append.1 hd with h1 | h1 <;> simp [h1])
  obtain ⟨ok1, ok2, fX, fY, fXt, fYd⟩ := cut_facts hn' hm' hX hY
  have hch := h.chain
  rw [ring_cut3 hX hY, Ch_append] at hch
  obtain ⟨ch1, _, _, ch2⟩ := hch
  have notc : ∀ x : Int, x = -1 ∨ x ∈ ints (A ++ B) → x ≠ c := by
    intro x hx e
    rcases hx with h1 | h1
    · omega
    · obtain ⟨d, hd, e'⟩ := mem_ints.1 h1
      have : d = c := by omega
      exact hcn (this ▸ hd)
  have cX : ∀ x ∈ X ++ [lastK A], x ≠ (c : Int) := by
    intro x hx
    rw [← hX] at hx
    apply notc
    rcases List.mem_cons.1 hx with h1 | h1
    · exact .inl h1
    · exact .inr (by rw [ints_append]; simp [h1])
  have cY : ∀ y ∈ headI B :: Y, y ≠ (c : Int) := by
    intro y hy
    rw [← hY] at hy
    apply notc
    rcases List.mem_append.1 hy with h1 | h1
    · exact .inr (by rw [ints_append]; simp [h1])
    · exact .inl (by simpa using h1)
  rw [← e1] at ok1
  rw [← e2] at ok2
  refine ⟨by rw [unlinkM_len]; exact h.lt, ?_, hn', fun d hd => by rw [unlinkM_len]; exact hm' d hd⟩
  rw [ring_cut hX hY, Ch_append]
  refine ⟨Ch_mono ch1 ?_, ⟨?_, ?_⟩, Ch_mono ch2 ?_⟩
  · intro x y hx hy hr
    rw [List.dropLast_concat] at hx
    have h1 := fX x hx
    have h2 := fXt y hy
    refine ⟨?_, ?_⟩
    · rw [fwd_unlink h.lt hpar ok1 h1.1 (cX x (by simp [hx])), if_neg (by rw [e1]; exact h1.2)]; exact hr.1
    · rw [bwd_unlink h.lt hpar ok2 h2.1 (cX y (List.mem_of_mem_tail hy)), if_neg (by rw [e2]; exact h2.2)]; exact hr.2
  · rw [fwd_unlink h.lt hpar ok1 (by rw [← e1]; exact ok1) (cX _ (by simp)), if_pos e1.symm, e2]
  · rw [bwd_unlink h.lt hpar ok2 (by rw [← e2]; exact ok2) (cY _ (by simp)), if_pos e2.symm, e1]
  · intro x y hx hy hr
    have h1 := fYd x hx
    have hy' : y ∈ Y := by simpa using hy
    have h2 := fY y hy'
    refine ⟨?_, ?_⟩
    · rw [fwd_unlink h.lt hpar ok1 h1.1 (cY x (List.dropLast_subset _ hx)), if_neg (by rw [e1]; exact h1.2)]; exact hr.1
    · rw [bwd_unlink h.lt hpar ok2 h2.1 (cY y (by simp [hy'])), if_neg (by rw [e2]; exact h2.2)]; exact hr.2

/-- New nodes behind the others leave the children as they are. -/
theorem fld_app (f : NodeM → Int) (ns ms : List NodeM) {i : Nat} (h : i < ns.length) : fld f (ns ++ ms) i = fld f ns i := by rw [fld, List.getElem?_append_left h]; rfl
theorem KidsOf.more {ns : List NodeM} {p : Nat} {L : List Nat} (h : KidsOf ns p L) (ms : List NodeM) : KidsOf (ns ++ ms) p L := by
  refine ⟨by have := h.lt; simp; omega, ?_, h.nodup, fun c hc => by have := h.mem c hc; simp; omega⟩
  refine Ch_mono h.chain (fun x y hx hy hr => ?_)
  have mem : ∀ z : Int, z ∈ ring L → okK ns z := by
    intro z hz
    rw [ring_eq] at hz
    rcases List.mem_cons.1 hz with h1 | h1
    · exact .inl h1
    · rcases List.mem_append.1 h1 with h1 | h1
      · obtain ⟨c, hc, rfl⟩ := mem_ints.1 h1; exact .inr ⟨c, rfl, h.mem c hc⟩
      · exact .inl (by simpa using h1)
  have ox := mem x (List.dropLast_subset _ hx)
  have oy := mem y (List.mem_of_mem_tail hy)
  refine ⟨?_, ?_⟩
  · rw [← hr.1]
    unfold fwd
    split
    · exact fld_app _ _ _ h.lt
    · rename_i h1; exact fld_app _ _ _ (okK_nat ox h1).1
  · rw [← hr.2]
    unfold bwd
    split
    · exact fld_app _ _ _ h.lt
    · rename_i h1; exact fld_app _ _ _ (okK_nat oy h1).1
end Go.Proofs.YtmnmaenmoaehlaaGreatDoor
/-
  An arena's nodes as plain nodes with lists of children: what both tell agrees. Plain, no walk.
-/
namespace Go.Proofs.YtmnmaenmoaehlaaGreatDoor
open Go.RowKit

/-- What no link touches. -/
structure Like (n m : NodeM) : Prop where
  kind : m.kind = n.kind
  space : m.space = n.space
  name : m.name = n.name
  data : m.data = n.data
  system : m.system = n.system
  inner : m.inner = n.inner
  attrs : m.attrs = n.attrs

theorem Like.refl (n : NodeM) : Like n n := ⟨rfl, rfl, rfl, rfl, rfl, rfl, rfl⟩
theorem Like.trans {a b c : NodeM} (h : Like a b) (k : Like b c) : Like a c :=
  ⟨k.kind.trans h.kind, k.space.trans h.space, k.name.trans h.name, k.data.trans h.data, k.system.trans h.system, k.inner.trans h.inner, k.attrs.trans h.attrs⟩

def LikeAll (ns ms : List NodeM) : Prop := ∀ (i : Nat) m, ms[i]? = some m → ∃ n, ns[i]? = some n ∧ Like n m
theorem LikeAll.trans {a b c : List NodeM} (h : LikeAll a b) (k : LikeAll b c) : LikeAll a c := fun i m hm => by
  obtain ⟨n, hn, l1⟩ := k i m hm
  obtain ⟨o, ho, l2⟩ := h i n hn
  exact ⟨o, ho, l2.trans l1⟩
theorem like_upd (ns : List NodeM) (i : Nat) (f : NodeM → NodeM) (hf : ∀ n, Like n (f n)) : LikeAll ns (upd ns i f) := fun j m hm => by
  by_cases e : i = j
  · subst e
    cases h : ns[i]? with
    | none => rw [upd, h] at hm; simp only at hm; rw [h] at hm; cases hm
    | some n => rw [upd_get_same h] at hm; cases hm; exact ⟨n, rfl, hf n⟩
  · rw [upd_get_other ns e] at hm; exact ⟨m, hm, Like.refl m⟩
theorem like_join (ns : List NodeM) (p : Nat) (a b : Int) : LikeAll ns (joinM ns p a b) := by
  have h1 : LikeAll ns (joinA ns p a b) := by
    unfold joinA
    split <;> exact like_upd _ _ _ (fun _ => ⟨rfl, rfl, rfl, rfl, rfl, rfl, rfl⟩)
  have h2 : LikeAll (joinA ns p a b) (joinB (joinA ns p a b) p a b) := by
    unfold joinB
    split <;> exact like_upd _ _ _ (fun _ => ⟨rfl, rfl, rfl, rfl, rfl, rfl, rfl⟩)
  exact h1.trans h2
theorem like_link (ns : List NodeM) (p c : Nat) (b a : Int) : LikeAll ns (linkM ns p c b a) :=
  (like_upd ns c (setParent p) (fun _ => ⟨rfl, rfl, rfl, rfl, rfl, rfl, rfl⟩)).trans ((like_join _ _ _ _).trans (like_join _ _ _ _))
theorem like_unlink (ns : List NodeM) (c : Nat) (n : NodeM) : LikeAll ns (unlinkM ns c n) :=
  (like_join ns _ _ _).trans ((like_upd _ c (setParent (-1)) (fun _ => ⟨rfl, rfl, rfl, rfl, rfl, rfl, rfl⟩)).trans ((like_upd _ c (setPrev (-1)) (fun _ => ⟨rfl, rfl, rfl, rfl, rfl, rfl, rfl⟩)).trans
    (like_upd _ c (setNext (-1)) (fun _ => ⟨rfl, rfl, rfl, rfl, rfl, rfl, rfl⟩))))

/-- What the setters of join leave alone. -/
structure Still (f : NodeM → Int) : Prop where
  first : ∀ b n, f (setFirst b n) = f n
  last : ∀ b n, f (setLast b n) = f n
  prev : ∀ b n, f (setPrev b n) = f n
  next : ∀ b n, f (setNext b n) = f n
theorem still_parent : Still (·.parent) := ⟨fun _ _ => rfl, fun _ _ => rfl, fun _ _ => rfl, fun _ _ => rfl⟩
theorem fld_join {f : NodeM → Int} (hf : Still f) (ns : List NodeM) (p : Nat) (a b : Int) (i : Nat) : fld f (joinM ns p a b) i = fld f ns i := by
  have h1 : fld f (joinB (joinA ns p a b) p a b) i = fld f (joinA ns p a b) i := by
    unfold joinB
    split
    · exact fld_upd_keep f _ _ _ (setLast a) (hf.last a)
    · exact fld_upd_keep f _ _ _ (setPrev a) (hf.prev a)
  have h2 : fld f (joinA ns p a b) i = fld f ns i := by
    unfold joinA
    split
    · exact fld_upd_keep f _ _ _ (setFirst b) (hf.first b)
    · exact fld_upd_keep f _ _ _ (setNext b) (hf.next b)
  rw [joinM, h1, h2]
theorem parent_link (ns : List NodeM) (p c : Nat) (b a : Int) (i : Nat) (hc : c < ns.length) : fld (·.parent) (linkM ns p c b a) i = if i = c then (p : Int) else fld (·.parent) ns i := by
  rw [linkM, fld_join still_parent, fld_join still_parent]
  by_cases h : i = c
  · subst h; rw [if_pos rfl]; exact fld_upd_same _ _ _ _ _ hc (fun _ => rfl)
  · rw [if_neg h]; exact fld_upd_other _ _ (fun e => h e.symm) _
theorem parent_unlink (ns : List NodeM) (c : Nat) (n : NodeM) (i : Nat) (hc : c < ns.length) : fld (·.parent) (unlinkM ns c n) i = if i = c then -1 else fld (·.parent) ns i := by
  rw [unlinkM, fld_upd_keep _ _ _ _ (setNext (-1)) (fun _ => rfl), fld_upd_keep _ _ _ _ (setPrev (-1)) (fun _ => rfl)]
  by_cases h : i = c
  · subst h; rw [if_pos rfl]; exact fld_upd_same _ _ _ _ _ (by rw [joinM_len]; exact hc) (fun _ => rfl)
  · rw [if_neg h, fld_upd_other _ _ (fun e => h e.symm), fld_join still_parent]

/-- Next and prev of a node apart from the two joined. -/
theorem fwd_joinA_other (ns : List NodeM) {p q : Nat} {a b k : Int} (hpq : p ≠ q) (ha : okK ns a) (hk : okK ns k) (hne : k = -1 ∨ k ≠ a) : fwd (joinA ns p a b) q k = fwd ns q k := by
  unfold fwd joinA
  by_cases h1 : k = -1
  · simp only [h1, if_true]
    split
    · exact fld_upd_other _ _ hpq _
    · exact fld_upd_keep _ _ _ _ _ (fun _ => rfl)
  · simp only [h1, if_false]
    split
    · exact fld_upd_keep _ _ _ _ _ (fun _ => rfl)
    · rename_i h2
      exact fld_upd_other _ _ (toNat_ne ha hk h2 h1 (hne.resolve_left h1)) _
theorem bwd_joinB_other (ns : List NodeM) {p q : Nat} {a b k : Int} (hpq : p ≠ q) (hb : okK ns b) (hk : okK ns k) (hne : k = -1 ∨ k ≠ b) : bwd (joinB ns p a b) q k = bwd ns q k := by
  unfold bwd joinB
  by_cases h1 : k = -1
  · simp only [h1, if_true]
    split
    · exact fld_upd_other _ _ hpq _
    · exact fld_upd_keep _ _ _ _ _ (fun _ => rfl)
  · simp only [h1, if_false]
    split
    · exact fld_upd_keep _ _ _ _ _ (fun _ => rfl)
    · rename_i h2
      exact fld_upd_other _ _ (toNat_ne hb hk h2 h1 (hne.resolve_left h1)) _
theorem fwd_join_other (ns : List NodeM) {p q : Nat} {a b k : Int} (hpq : p ≠ q) (ha : okK ns a) (hk : okK ns k) (hne : k = -1 ∨ k ≠ a) : fwd (joinM ns p a b) q k = fwd ns q k := by
  rw [joinM, fwd_joinB, fwd_joinA_other ns hpq ha hk hne]
theorem bwd_join_other (ns : List NodeM) {p q : Nat} {a b k : Int} (hpq : p ≠ q) (hb : okK ns b) (hk : okK ns k) (hne : k = -1 ∨ k ≠ b) : bwd (joinM ns p a b) q k = bwd ns q k := by
  rw [joinM, bwd_joinB_other (joinA ns p a b) hpq (okK_len (joinA_len _ _ _ _) hb) (okK_len (joinA_len _ _ _ _) hk) hne, bwd_joinA]

theorem fwd_link_other {ns : List NodeM} {p q c : Nat} {a b k : Int} (hpq : p ≠ q) (hc : c < ns.length) (ha : okK ns a) (hk : okK ns k) (h1 : k = -1 ∨ k ≠ a) (h2 : k ≠ c) : fwd (linkM ns p c b a) q k = fwd ns q k := by
  have l1 : (upd ns c (setParent p)).length = ns.length := upd_len _ _ _
  have l2 : (joinM (upd ns c (setParent p)) p a c).length = ns.length := by rw [joinM_len, l1]
  rw [linkM, fwd_join_other _ hpq (okK_len l2 (.inr ⟨c, rfl, hc⟩)) (okK_len l2 hk) (.inr h2), fwd_join_other _ hpq (okK_len l1 ha) (okK_len l1 hk) h1, fwd_parent]
theorem bwd_link_other {ns : List NodeM} {p q c : Nat} {a b k : Int} (hpq : p ≠ q) (hc : c < ns.length) (hb : okK ns b) (hk : okK ns k) (h1 : k = -1 ∨ k ≠ b) (h2 : k ≠ c) : bwd (linkM ns p c b a) q k = bwd ns q k := by
  have l1 : (upd ns c (setParent p)).length = ns.length := upd_len _ _ _
  have l2 : (joinM (upd ns c (setParent p)) p a c).length = ns.length := by rw [joinM_len, l1]
  rw [linkM, bwd_join_other _ hpq (okK_len l2 hb) (okK_len l2 hk) h1, bwd_join_other _ hpq (okK_len l1 (.inr ⟨c, rfl, hc⟩)) (okK_len l1 hk) (.inr h2), bwd_parent]
theorem fwd_unlink_other {ns : List NodeM} {p q c : Nat} {n : NodeM} {k : Int} (hpar : n.parent.toNat = p) (hpq : p ≠ q) (ha : okK ns n.prev) (hk : okK ns k) (h1 : k = -1 ∨ k ≠ n.prev) (hne : k ≠ c) : fwd (unlinkM ns c n) q k = fwd ns q k := by
  have e0 : okK (joinM ns n.parent.toNat n.prev n.next) k := okK_len (joinM_len _ _ _ _) hk
  have e1 : okK (upd (joinM ns n.parent.toNat n.prev n.next) c (setParent (-1))) k := okK_len (upd_len _ _ _) e0
  have e2 : okK (upd (upd (joinM ns n.parent.toNat n.prev n.next) c (setParent (-1))) c (setPrev (-1))) k := okK_len (upd_len _ _ _) e1
  rw [unlinkM, fwd_upd_far _ c q k (setNext (-1)) (fun _ => rfl) e2 hne, fwd_upd_far _ c q k (setPrev (-1)) (fun _ => rfl) e1 hne, fwd_upd_far _ c q k (setParent (-1)) (fun _ => rfl) e0 hne, hpar, fwd_join_other ns hpq ha hk h1]
theorem bwd_unlink_other {ns : List NodeM} {p q c : Nat} {n : NodeM} {k : Int} (hpar : n.parent.toNat = p) (hpq : p ≠ q) (hb : okK ns n.next) (hk : okK ns k) (h1 : k = -1 ∨ k ≠ n.next) (hne : k ≠ c) : bwd (unlinkM ns c n) q k = bwd ns q k := by
  have e0 : okK (joinM ns n.parent.toNat n.prev n.next) k := okK_len (joinM_len _ _ _ _) hk
  have e1 : okK (upd (joinM ns n.parent.toNat n.prev n.next) c (setParent (-1))) k := okK_len (upd_len _ _ _) e0
  have e2 : okK (upd (upd (joinM ns n.parent.toNat n.prev n.next) c (setParent (-1))) c (setPrev (-1))) k := okK_len (upd_len _ _ _) e1
  rw [unlinkM, bwd_upd_far _ c q k (setNext (-1)) (fun _ => rfl) e2 hne, bwd_upd_far _ c q k (setPrev (-1)) (fun _ => rfl) e1 hne, bwd_upd_far _ c q k (setParent (-1)) (fun _ => rfl) e0 hne, hpar, bwd_join_other ns hpq hb hk h1]

/-- The children of another node, where what stands ahead and behind of them is as it was. -/
theorem KidsOf.keep {ns ms : List NodeM} {q : Nat} {L : List Nat} (h : KidsOf ns q L) (hlen : ms.length = ns.length) (hf : ∀ k : Int, (k = -1 ∨ ∃ x ∈ L, k = (x : Int)) → fwd ms q k = fwd ns q k ∧ bwd ms q k = bwd ns q k) : KidsOf ms q L := by
  have mem : ∀ z : Int, z ∈ ring L → z = -1 ∨ ∃ x ∈ L, z = (x : Int) := by
    intro z hz
    rw [ring_eq] at hz
    rcases List.mem_cons.1 hz with h1 | h1
    · exact .inl h1
    · rcases List.mem_append.1 h1 with h1 | h1
      · obtain ⟨c, hc, rfl⟩ := mem_ints.1 h1; exact .inr ⟨c, hc, rfl⟩
      · exact .inl (by simpa using h1)
  refine ⟨by rw [hlen]; exact h.lt, Ch_mono h.chain (fun x y hx hy hr => ⟨?_, ?_⟩), h.nodup, fun c hc => by rw [hlen]; exact h.mem c hc⟩
  · rw [(hf x (mem x (List.dropLast_subset _ hx))).1]; exact hr.1
  · rw [(hf y (mem y (List.mem_of_mem_tail hy))).2]; exact hr.2

/-- Both tell the same of a node, but for its neighbours. -/
structure Same (n : NodeM) (o : OneM) : Prop where
  kind : n.kind = o.kind
  space : n.space = o.space
  name : n.name = o.name
  data : n.data = o.data
  system : n.system = o.system
  inner : n.inner = o.inner
  attrs : n.attrs = o.attrs
  up : n.parent = o.up

def upO (os : List OneM) (i : Nat) : Option Int := (os[i]?).map fun o => if o.up = -1 then o.host else o.up

structure Sim (ns : List NodeM) (os : List OneM) : Prop where
  len : ns.length = os.length
  same : ∀ (i : Nat) n o, ns[i]? = some n → os[i]? = some o → Same n o
  kids : ∀ (i : Nat) o, os[i]? = some o → KidsOf ns i o.kids
  down : ∀ (i : Nat) o (c : Nat), os[i]? = some o → c ∈ o.kids → ∃ m, os[c]? = some m ∧ m.up = (i : Int)
  up : ∀ (i : Nat) o, os[i]? = some o → o.up = -1 ∨ ∃ (p : Nat) (m : OneM), o.up = (p : Int) ∧ os[p]? = some m ∧ i ∈ m.kids
  alone : ∀ (i : Nat) o, os[i]? = some o → o.kind = 0 ∨ o.kind = 5 → o.up = -1
  loose : ∀ (i : Nat) n, ns[i]? = some n → n.parent = -1 → n.prev = -1 ∧ n.next = -1
  inner : ∀ (i : Nat) o, os[i]? = some o → o.inner = -1 ∨ (o.inner = (i : Int) + 1 ∧ ∃ m, os[i + 1]? = some m ∧ m.host = (i : Int))
  host : ∀ (i : Nat) o, os[i]? = some o → o.host = -1 ∨ (o.kind = 5 ∧ ∃ (h : Nat) (m : OneM), o.host = (h : Int) ∧ i = h + 1 ∧ os[h]? = some m ∧ m.inner = (i : Int))
  ends : ∀ i, i < os.length → ∃ path, PathOf (upO os) i path

theorem Sim.get {ns : List NodeM} {os : List OneM} (h : Sim ns os) {i : Nat} {o : OneM} (ho : os[i]? = some o) : ∃ n, ns[i]? = some n ∧ Same n o := by
  have hlt : i < ns.length := by rw [h.len]; exact (List.getElem?_eq_some_iff.1 ho).1
  exact ⟨_, List.getElem?_eq_getElem hlt, h.same i _ o (List.getElem?_eq_getElem hlt) ho⟩
theorem Sim.getO {ns : List NodeM} {os : List OneM} (h : Sim ns os) {i : Nat} {n : NodeM} (hn : ns[i]? = some n) : ∃ o, os[i]? = some o ∧ Same n o := by
  have hlt : i < os.length := by rw [← h.len]; exact (List.getElem?_eq_some_iff.1 hn).1
  exact ⟨_, List.getElem?_eq_getElem hlt, h.same i n _ hn (List.getElem?_eq_getElem hlt)⟩

theorem Sim.hostM {ns : List NodeM} {os : List OneM} (h : Sim ns os) {i : Nat} {o : OneM} (ho : os[i]? = some o) : hostM ns i = o.host := by
  have hlt : i < ns.length := by rw [h.len]; exact (List.getElem?_eq_some_iff.1 ho).1
  unfold YtmnmaenmoaehlaaGreatDoor.hostM
  rcases h.host i o ho with hh | ⟨_, k, m, hk, rfl, hm, hi⟩
  · rw [hh, if_neg]
    rintro ⟨h1, _, h3⟩
    have h1' : 0 < i := by omega
    obtain ⟨n, hn⟩ : ∃ n, ns[i - 1]? = some n := ⟨_, List.getElem?_eq_getElem (by omega)⟩
    have e : ((i : Int)).toNat - 1 = i - 1 := by omega
    rw [e, hn] at h3
    simp at h3
    obtain ⟨m, hm, sm⟩ := h.getO hn
    rcases h.inner _ m hm with e1 | ⟨_, m2, hm2, e2⟩
    · have := sm.inner; omega
    · rw [show i - 1 + 1 = i by omega, ho] at hm2
      cases hm2; omega
  · obtain ⟨n, hn, sm⟩ := h.get hm
    rw [hk, if_pos]
    · omega
    · refine ⟨by omega, by omega, ?_⟩
      rw [show (((k + 1 : Nat) : Int)).toNat - 1 = k by omega, hn]
      have := sm.inner
      simp; omega

theorem Sim.upF {ns : List NodeM} {os : List OneM} (h : Sim ns os) : upF ns = upO os := by
  funext i
  unfold YtmnmaenmoaehlaaGreatDoor.upF upO
  by_cases hi : i < ns.length
  · obtain ⟨n, hn⟩ : ∃ n, ns[i]? = some n := ⟨_, List.getElem?_eq_getElem hi⟩
    obtain ⟨o, ho, sm⟩ := h.getO hn
    rw [hn, ho]
    simp only [Option.map_some, overM, h.hostM ho, sm.kind, sm.up]
    congr 1
    by_cases hk : o.kind = 5
    · rw [if_pos hk, if_pos (h.alone i o ho (.inr hk))]
    · rw [if_neg hk]
      by_cases hu : o.up = -1
      · rw [if_pos hu]
        rcases h.host i o ho with hh | ⟨hh, _⟩
        · rw [hu, hh]
        · exact absurd hh hk
      · rw [if_neg hu]
  · rw [List.getElem?_eq_none (by omega), List.getElem?_eq_none (by rw [← h.len]; omega)]; rfl
end Go.Proofs.YtmnmaenmoaehlaaGreatDoor
/-
  A child put in, a child taken out: both still agree. Plain, no walk.
-/
namespace Go.Proofs.YtmnmaenmoaehlaaGreatDoor
open Go.RowKit

def insO (kids : List Nat) (b : Int) (c : Nat) : List Nat := if b = -1 then kids ++ [c] else kids.flatMap fun (x : Nat) => if (x : Int) = b then [c, x] else [x]
def linkO (os : List OneM) (p c : Nat) (b : Int) : List OneM := (os.modify p fun o => { o with kids := insO o.kids b c }).modify c fun o => { o with up := (p : Int) }
def unlinkO (os : List OneM) (p c : Nat) : List OneM := (os.modify p fun o => { o with kids := o.kids.filter (· ≠ c) }).modify c fun o => { o with up := -1 }

theorem linkO_len (os : List OneM) (p c : Nat) (b : Int) : (linkO os p c b).length = os.length := by simp [linkO]
theorem unlinkO_len (os : List OneM) (p c : Nat) : (unlinkO os p c).length = os.length := by simp [unlinkO]

theorem linkO_get (os : List OneM) (p c : Nat) (b : Int) (i : Nat) :
    (linkO os p c b)[i]? = (os[i]?).map fun o => { o with up := if i = c then (p : Int) else o.up, kids := if i = p then insO o.kids b c else o.kids } := by
  simp only [linkO, List.getElem?_modify]
  cases os[i]? with
  | none => rfl
  | some o =>
    by_cases h1 : i = c <;> by_cases h2 : i = p
    · simp [h1.symm, h2.symm]
    · have h2' : ¬ p = i := fun e => h2 e.symm
      simp [h1.symm, h2, h2']
    · have h1' : ¬ c = i := fun e => h1 e.symm
      simp [h1, h1', h2.symm]
    · have h1' : ¬ c = i := fun e => h1 e.symm
      have h2' : ¬ p = i := fun e => h2 e.symm
      simp [h1, h1', h2, h2']
theorem unlinkO_get (os : List OneM) (p c : Nat) (i : Nat) :
    (unlinkO os p c)[i]? = (os[i]?).map fun o => { o with up := if i = c then -1 else o.up, kids := if i = p then o.kids.filter (· ≠ c) else o.kids } := by
  simp only [unlinkO, List.getElem?_modify]
  cases os[i]? with
  | none => rfl
  | some o =>
    by_cases h1 : i = c <;> by_cases h2 : i = p
    · simp [h1.symm, h2.symm]
    · have h2' : ¬ p = i := fun e => h2 e.symm
      simp [h1.symm, h2, h2']
    · have h1' : ¬ c = i := fun e => h1 e.symm
      simp [h1, h1', h2.symm]
    · have h1' : ¬ c = i := fun e => h1 e.symm
      have h2' : ¬ p = i := fun e => h2 e.symm
      simp [h1, h1', h2, h2']

theorem insO_none {l : List Nat} {b : Int} {c : Nat} (h : ∀ x ∈ l, (x : Int) ≠ b) : (l.flatMap fun (x : Nat) => if (x : Int) = b then [c, x] else [x]) = l := by
  induction l with
  | nil => rfl
  | cons x l ih =>
    rw [List.flatMap_cons, ih (fun y hy => h y (by simp [hy])), if_neg (h x (by simp))]; rfl
theorem insO_cut {kids : List Nat} (hn : kids.Nodup) {b : Int} (hb : b = -1 ∨ ∃ x ∈ kids, b = (x : Int)) (c : Nat) : ∃ A B, kids = A ++ B ∧ insO kids b c = A ++ c :: B ∧ headI B = b := by
  rcases hb with rfl | ⟨x, hx, rfl⟩
  · exact ⟨kids, [], by simp, by simp [insO], rfl⟩
  · obtain ⟨A, B, rfl⟩ := List.append_of_mem hx
    rw [List.nodup_append] at hn
    obtain ⟨n1, n2, n3⟩ := hn
    rw [List.nodup_cons] at n2
    refine ⟨A, x :: B, rfl, ?_, rfl⟩
    have hne : ¬ ((x : Int) = -1) := by omega
    have f1 : ∀ y ∈ A, (y : Int) ≠ (x : Int) := fun y hy => by have := n3 y hy x (by simp); omega
    have f2 : ∀ y ∈ B, (y : Int) ≠ (x : Int) := fun y hy e => n2.1 ((show y = x by omega) ▸ hy)
    rw [insO, if_neg hne, List.flatMap_append, List.flatMap_cons, if_pos rfl, insO_none f1, insO_none f2]
    rfl
theorem filter_cut {A B : List Nat} {c : Nat} (hn : (A ++ c :: B).Nodup) : (A ++ c :: B).filter (· ≠ c) = A ++ B := by
  rw [List.nodup_append] at hn
  obtain ⟨n1, n2, n3⟩ := hn
  rw [List.nodup_cons] at n2
  rw [List.filter_append, List.filter_cons]
  have h1 : A.filter (· ≠ c) = A := List.filter_eq_self.2 (fun x hx => by simpa using n3 x hx c (by simp))
  have h2 : B.filter (· ≠ c) = B := List.filter_eq_self.2 (fun x hx => by
    simp only [ne_eq, decide_eq_true_eq]; intro e; exact n2.1 (e ▸ hx))
  rw [h1, h2]; simp

/-- A way up that is sent another way at one node. -/
theorem path_turn {f g : Nat → Option Int} {c : Nat} {p : Int} {P : List Nat} (hc : g c = some p) (ho : ∀ x, x ≠ c → g x = f x) (hP : PathOf g p P) : ∀ {path : List Nat} {k : Int}, PathOf f k path → ∃ path', PathOf g k path'
  | [], _, h => ⟨[], h⟩
  | i :: r, k, h => by
    obtain ⟨rfl, m, hm, hr⟩ := h
    by_cases e : i = c
    · subst e; exact ⟨i :: P, rfl, p, hc, hP⟩
    · obtain ⟨r', hr'⟩ := path_turn hc ho hP hr
      exact ⟨i :: r', rfl, m, (ho i e).trans hm, hr'⟩
theorem path_congr {f g : Nat → Option Int} : ∀ {path : List Nat} {k : Int}, (∀ x ∈ path, g x = f x) → PathOf f k path → PathOf g k path
  | [], _, _, h => h
  | i :: r, k, ho, h => by
    obtain ⟨rfl, m, hm, hr⟩ := h
    exact ⟨rfl, m, (ho i (by simp)).trans hm, path_congr (fun x hx => ho x (by simp [hx])) hr⟩
theorem path_head {f : Nat → Option Int} {i : Nat} {path : List Nat} (h : PathOf f i path) : i ∈ path := by
  cases path with
  | nil => have : (i : Int) = -1 := h; omega
  | cons j r =>
    obtain ⟨e, _⟩ := h
    have : i = j := by omega
    simp [this]
theorem path_one {f : Nat → Option Int} : ∀ {path path' : List Nat} {k : Int}, PathOf f k path → PathOf f k path' → path = path'
  | [], [], _, _, _ => rfl
  | [], j :: _, _, h, h' => by
    have e : _ = (-1 : Int) := h
    have := h'.1; omega
  | i :: _, [], _, h, h' => by
    have e : _ = (-1 : Int) := h'
    have := h.1; omega
  | i :: r, j :: r', _, h, h' => by
    obtain ⟨rfl, m, hm, hr⟩ := h
    obtain ⟨e, m', hm', hr'⟩ := h'
    have : i = j := by omega
    subst this
    rw [hm] at hm'
    cases hm'
    rw [path_one hr hr']

theorem fld_get {f : NodeM → Int} {ns : List NodeM} {i : Nat} {n : NodeM} {v : Int} (hn : ns[i]? = some n) (h : fld f ns i = v) : f n = v := by rw [← fld_of (f := f) hn]; exact h

theorem Sim.prev {ns : List NodeM} {os : List OneM} (h : Sim ns os) {p : Nat} {np : NodeM} {op : OneM} (hp : ns[p]? = some np) (hop : os[p]? = some op) {A B : List Nat} (hk : op.kids = A ++ B) : prevM ns np (headI B) = lastK A ∧ okK ns (lastK A) ∧ okK ns (headI B) := by
  have hK := h.kids p op hop
  rw [hk] at hK
  obtain ⟨X, hX⟩ := cut_left A
  obtain ⟨Y, hY⟩ := cut_right B
  obtain ⟨ok1, ok2, _⟩ := cut_facts hK.nodup hK.mem hX hY
  refine ⟨?_, ok1, ok2⟩
  have hch := hK.chain
  rw [ring_cut hX hY, Ch_append] at hch
  have hb := hch.2.1.2
  unfold prevM
  by_cases e : headI B = -1
  · rw [if_pos e]
    rw [e] at hb
    simpa [bwd, fld, hp] using hb
  · rw [if_neg e]
    simpa [bwd, fld, e] using hb

theorem Sim.link {ns : List NodeM} {os : List OneM} (h : Sim ns os) {p c : Nat} {np : NodeM} {op oc : OneM} (hp : ns[p]? = some np) (hop : os[p]? = some op) (hoc : os[c]? = some oc) (hup : oc.up = -1) (hk0 : oc.kind ≠ 0) (hk5 : oc.kind ≠ 5)
    {b : Int} (hb : b = -1 ∨ ∃ x ∈ op.kids, b = (x : Int)) {path : List Nat} (hpath : PathOf (upO os) p path) (hnot : c ∉ path) : Sim (linkM ns p c b (prevM ns np b)) (linkO os p c b) := by
  have hK := h.kids p op hop
  obtain ⟨A, B, hkids, hins, hhead⟩ := insO_cut hK.nodup hb c
  obtain ⟨e1, ok1, ok2⟩ := h.prev hp hop hkids
  rw [← hhead] at hins ⊢
  rw [e1]
  have hclt : c < ns.length := by rw [h.len]; exact (List.getElem?_eq_some_iff.1 hoc).1
  have hpc : p ≠ c := fun e => hnot (e ▸ path_head hpath)
  have c_out : ∀ (q : Nat) o, os[q]? = some o → c ∉ o.kids := fun q o ho hx => by
    obtain ⟨m, hm, hu⟩ := h.down q o c ho hx
    rw [hoc] at hm; cases hm; omega
  have lastA : lastK A = -1 ∨ ∃ x ∈ op.kids, lastK A = (x : Int) := by
    rcases lastI_mem (A := A) with e | ⟨x, hx, e⟩
    · exact .inl e
    · exact .inr ⟨x, by rw [hkids]; simp [hx], e⟩
  have headB : headI B = -1 ∨ ∃ x ∈ op.kids, headI B = (x : Int) := by
    rcases headI_mem (B := B) with e | ⟨x, hx, e⟩
    · exact .inl e
    · exact .inr ⟨x, by rw [hkids]; simp [hx], e⟩
  -- what is not below p is none of the two neighbours
  have far : ∀ (k : Int) (z : Int), (z = -1 ∨ ∃ x ∈ op.kids, z = (x : Int)) → (k = -1 ∨ ∃ (y : Nat) (m : OneM), k = (y : Int) ∧ os[y]? = some m ∧ m.up ≠ (p : Int)) → k = -1 ∨ k ≠ z := by
    rintro k z hz (hk | ⟨y, m, rfl, hm, hu⟩)
    · exact .inl hk
    · right
      rcases hz with rfl | ⟨x, hx, rfl⟩
      · omega
      · intro e
        have : y = x := by omega
        subst this
        obtain ⟨m', hm', hu'⟩ := h.down p op y hop hx
        rw [hm] at hm'; cases hm'; exact hu hu'
  have okOf : ∀ (k : Int), (k = -1 ∨ ∃ (y : Nat) (m : OneM), k = (y : Int) ∧ os[y]? = some m ∧ m.up ≠ (p : Int)) → okK ns k := by
    rintro k (hk | ⟨y, m, rfl, hm, _⟩)
    · exact .inl hk
    · exact .inr ⟨y, rfl, by rw [h.len]; exact (List.getElem?_eq_some_iff.1 hm).1⟩
  have upOther : ∀ x, x ≠ c → upO (linkO os p c (headI B)) x = upO os x := by
    intro x hx
    unfold upO
    rw [linkO_get]
    cases os[x]? with
    | none => rfl
    | some o => simp [hx]
  have upC : upO (linkO os p c (headI B)) c = some (p : Int) := by
    unfold upO
    rw [linkO_get, hoc]
    have : ¬ ((p : Int) = -1) := by omega
    simp [this]
  refine ⟨by rw [linkM_len, linkO_len, h.len], ?_, ?_, ?_, ?_, ?_, ?_, ?_, ?_, ?_⟩
  · intro i n' o' hn' ho'
    obtain ⟨n, hn, lk⟩ := like_link ns p c (headI B) (lastK A) i n' hn'
    rw [linkO_get] at ho'
    obtain ⟨o, ho, sm⟩ := h.getO hn
    rw [ho] at ho'
    simp only [Option.map_some, Option.some.injEq] at ho'
    subst ho'
    refine ⟨lk.kind.trans sm.kind, lk.space.trans sm.space, lk.name.trans sm.name, lk.data.trans sm.data, lk.system.trans sm.system, lk.inner.trans sm.inner, lk.attrs.trans sm.attrs, ?_⟩
    have hpar := parent_link ns p c (headI B) (lastK A) i hclt
    rw [fld_of hn', fld_of hn] at hpar
    rw [hpar]
    by_cases e : i = c
    · simp [e]
    · simp only [e, if_false]; exact sm.up
  · intro i o' ho'
    rw [linkO_get] at ho'
    cases ho : os[i]? with
    | none => rw [ho] at ho'; simp at ho'
    | some o =>
      rw [ho] at ho'
      simp only [Option.map_some, Option.some.injEq] at ho'
      subst ho'
      by_cases e : i = p
      · subst e
        rw [hop] at ho; cases ho
        simp only [if_true]
        rw [hins]
        have hK' := hK
        rw [hkids] at hK'
        exact hK'.insert hclt (by rw [← hkids]; exact c_out i op hop)
      · simp only [e, if_false]
        refine (h.kids i o ho).keep (linkM_len _ _ _ _ _) (fun k hk => ?_)
        have hk' : k = -1 ∨ ∃ (y : Nat) (m : OneM), k = (y : Int) ∧ os[y]? = some m ∧ m.up ≠ (p : Int) := by
          rcases hk with hk | ⟨x, hx, rfl⟩
          · exact .inl hk
          · obtain ⟨m, hm, hu⟩ := h.down i o x ho hx
            exact .inr ⟨x, m, rfl, hm, by omega⟩
        have hkc : k ≠ (c : Int) := by
          rcases hk with hk | ⟨x, hx, rfl⟩
          · omega
          · intro e'
            have : x = c := by omega
            exact c_out i o ho (this ▸ hx)
        exact ⟨fwd_link_other (fun e' => e e'.symm) hclt ok1 (okOf k hk') (far k _ lastA hk') hkc, bwd_link_other (fun e' => e e'.symm) hclt ok2 (okOf k hk') (far k _ headB hk') hkc⟩
  · intro i o' x ho' hx
    rw [linkO_get] at ho' 
    rw [linkO_get]
    cases ho : os[i]? with
    | none => rw [ho] at ho'; simp at ho'
    | some o =>
      rw [ho] at ho'
      simp only [Option.map_some, Option.some.injEq] at ho'
      subst ho'
      by_cases e : i = p
      · subst e
        rw [hop] at ho; cases ho
        simp only [if_true] at hx
        rw [hins] at hx
        have hx' : x = c ∨ x ∈ op.kids := by
          rw [hkids]
          rcases List.mem_append.1 hx with h1 | h1
          · simp [h1]
          · rcases List.mem_cons.1 h1 with h1 | h1 <;> simp [h1]
        rcases hx' with rfl | hx'
        · rw [hoc]; exact ⟨_, rfl, by simp⟩
        · obtain ⟨m, hm, hu⟩ := h.down i op x hop hx'
          have hxc : x ≠ c := fun e' => c_out i op hop (e' ▸ hx')
          rw [hm]; exact ⟨_, rfl, by simp [hxc, hu]⟩
      · simp only [e, if_false] at hx
        obtain ⟨m, hm, hu⟩ := h.down i o x ho hx
        have hxc : x ≠ c := fun e' => c_out i o ho (e' ▸ hx)
        rw [hm]; exact ⟨_, rfl, by simp [hxc, hu]⟩
  · intro i o' ho'
    rw [linkO_get] at ho'
    cases ho : os[i]? with
    | none => rw [ho] at ho'; simp at ho'
    | some o =>
      rw [ho] at ho'
      simp only [Option.map_some, Option.some.injEq] at ho'
      subst ho'
      by_cases e : i = c
      · subst e
        right
        refine ⟨p, { op with kids := insO op.kids (headI B) i }, by simp, ?_, ?_⟩
        · rw [linkO_get, hop]; simp [hpc]
        · simp only; rw [hins]; simp
      · simp only [e, if_false]
        rcases h.up i o ho with hu | ⟨q, m, hu, hm, hi⟩
        · exact .inl hu
        · refine .inr ⟨q, { m with up := if q = c then (p : Int) else m.up, kids := if q = p then insO m.kids (headI B) c else m.kids }, hu, by rw [linkO_get, hm]; rfl, ?_⟩
          by_cases e2 : q = p
          · subst e2
            rw [hop] at hm; cases hm
            simp only [if_true]
            rw [hins]
            rw [hkids] at hi
            rcases List.mem_append.1 hi with h1 | h1 <;> simp [h1]
          · simp only [e2, if_false]; exact hi
  · intro i o' ho' hk
    rw [linkO_get] at ho'
    cases ho : os[i]? with
    | none => rw [ho] at ho'; simp at ho'
    | some o =>
      rw [ho] at ho'
      simp only [Option.map_some, Option.some.injEq] at ho'
      subst ho'
      by_cases e : i = c
      · subst e
        rw [hoc] at ho; cases ho
        rcases hk with hk | hk
        · exact absurd hk hk0
        · exact absurd hk hk5
      · simp only [e, if_false]; exact h.alone i o ho hk
  · intro i n' hn' hpar
    obtain ⟨n, hn, lk⟩ := like_link ns p c (headI B) (lastK A) i n' hn'
    obtain ⟨o, ho, sm⟩ := h.getO hn
    have hp1 := parent_link ns p c (headI B) (lastK A) i hclt
    rw [fld_of hn', fld_of hn, hpar] at hp1
    by_cases e : i = c
    · rw [if_pos e] at hp1; omega
    · rw [if_neg e] at hp1
      have hu : o.up = -1 := by rw [← sm.up]; exact hp1.symm
      obtain ⟨l1, l2⟩ := h.loose i n hn hp1.symm
      have hk' : (i : Int) = -1 ∨ ∃ (y : Nat) (m : OneM), (i : Int) = (y : Int) ∧ os[y]? = some m ∧ m.up ≠ (p : Int) := .inr ⟨i, o, rfl, ho, by omega⟩
      have hic : (i : Int) ≠ (c : Int) := by omega
      have hpi : ∃ q, p ≠ q := ⟨p + 1, by omega⟩
      obtain ⟨q, hq⟩ := hpi
      have f1 := fwd_link_other (b := headI B) hq hclt ok1 (okOf _ hk') (far _ _ lastA hk') hic
      have f2 := bwd_link_other (a := lastK A) hq hclt ok2 (okOf _ hk') (far _ _ headB hk') hic
      have ni : ¬ ((i : Int) = -1) := by omega
      simp only [fwd, bwd, ni, if_false, Int.toNat_natCast, fld_of hn', fld_of hn] at f1 f2
      exact ⟨f2.trans l1, f1.trans l2⟩
  · intro i o' ho'
    rw [linkO_get] at ho'
    cases ho : os[i]? with
    | none => rw [ho] at ho'; simp at ho'
    | some o =>
      rw [ho] at ho'
      simp only [Option.map_some, Option.some.injEq] at ho'
      subst ho'
      rcases h.inner i o ho with e | ⟨e, m, hm, hh⟩
      · exact .inl e
      · refine .inr ⟨e, _, (linkO_get _ _ _ _ _).trans (by rw [hm]; rfl), ?_⟩
        exact hh
  · intro i o' ho'
    rw [linkO_get] at ho'
    cases ho : os[i]? with
    | none => rw [ho] at ho'; simp at ho'
    | some o =>
      rw [ho] at ho'
      simp only [Option.map_some, Option.some.injEq] at ho'
      subst ho'
      rcases h.host i o ho with e | ⟨hk, q, m, e, hq, hm, hi⟩
      · exact .inl e
      · refine .inr ⟨hk, q, _, e, hq, (linkO_get _ _ _ _ _).trans (by rw [hm]; rfl), ?_⟩
        exact hi
  · intro i hi
    rw [linkO_len] at hi
    obtain ⟨pi, hpi⟩ := h.ends i hi
    exact path_turn upC upOther (path_congr (fun x hx => upOther x (fun e => hnot (e ▸ hx))) hpath) hpi
end Go.Proofs.YtmnmaenmoaehlaaGreatDoor
/-
  A child taken out, new nodes, other data: both still agree. Plain, no walk.
-/
namespace Go.Proofs.YtmnmaenmoaehlaaGreatDoor
open Go.RowKit

theorem Sim.cut {ns : List NodeM} {os : List OneM} (h : Sim ns os) {c : Nat} {oc : OneM} (hoc : os[c]? = some oc) (hu : oc.up ≠ -1) : ∃ (p : Nat) (op : OneM) (A B : List Nat), oc.up = (p : Int) ∧ os[p]? = some op ∧ op.kids = A ++ c :: B := by
  rcases h.up c oc hoc with e | ⟨p, m, e, hm, hi⟩
  · exact absurd e hu
  · obtain ⟨A, B, hAB⟩ := List.append_of_mem hi
    exact ⟨p, m, A, B, e, hm, hAB⟩

theorem Sim.nbrs {ns : List NodeM} {os : List OneM} (h : Sim ns os) {c p : Nat} {nc : NodeM} {op : OneM} (hnc : ns[c]? = some nc) (hop : os[p]? = some op) {A B : List Nat} (hk : op.kids = A ++ c :: B) : nc.prev = lastK A ∧ nc.next = headI B ∧ okK ns nc.prev ∧ okK ns nc.next := by
  have hK := h.kids p op hop
  rw [hk] at hK
  obtain ⟨e1, e2⟩ := hK.nbrs hnc
  refine ⟨e1, e2, ?_, ?_⟩
  · rw [e1]
    rcases lastI_mem (A := A) with e | ⟨x, hx, e⟩
    · exact .inl e
    · exact .inr ⟨x, e, hK.mem x (by simp [hx])⟩
  · rw [e2]
    rcases headI_mem (B := B) with e | ⟨x, hx, e⟩
    · exact .inl e
    · exact .inr ⟨x, e, hK.mem x (by simp [hx])⟩

theorem Sim.unlink {ns : List NodeM} {os : List OneM} (h : Sim ns os) {p c : Nat} {nc : NodeM} {op oc : OneM} (hnc : ns[c]? = some nc) (hop : os[p]? = some op) (hoc : os[c]? = some oc) (hup : oc.up = (p : Int)) {A B : List Nat} (hkids : op.kids = A ++ c :: B) :
    Sim (unlinkM ns c nc) (unlinkO os p c) := by
  have hK := h.kids p op hop
  have hKn := hK.nodup
  rw [hkids] at hKn
  obtain ⟨e1, e2, ok1, ok2⟩ := h.nbrs hnc hop hkids
  have smc := h.same c nc oc hnc hoc
  have hpar : nc.parent.toNat = p := by rw [smc.up, hup]; simp
  have hclt : c < ns.length := (List.getElem?_eq_some_iff.1 hnc).1
  have hfil : op.kids.filter (· ≠ c) = A ++ B := by rw [hkids]; exact filter_cut hKn
  have nbA : nc.prev = -1 ∨ ∃ x ∈ op.kids, nc.prev = (x : Int) := by
    rw [e1]
    rcases lastI_mem (A := A) with e | ⟨x, hx, e⟩
    · exact .inl e
    · exact .inr ⟨x, by rw [hkids]; simp [hx], e⟩
  have nbB : nc.next = -1 ∨ ∃ x ∈ op.kids, nc.next = (x : Int) := by
    rw [e2]
    rcases headI_mem (B := B) with e | ⟨x, hx, e⟩
    · exact .inl e
    · exact .inr ⟨x, by rw [hkids]; simp [hx], e⟩
  have far : ∀ (k : Int) (z : Int), (z = -1 ∨ ∃ x ∈ op.kids, z = (x : Int)) → (k = -1 ∨ ∃ (y : Nat) (m : OneM), k = (y : Int) ∧ os[y]? = some m ∧ m.up ≠ (p : Int)) → k = -1 ∨ k ≠ z := by
    rintro k z hz (hk | ⟨y, m, rfl, hm, hu⟩)
    · exact .inl hk
    · right
      rcases hz with rfl | ⟨x, hx, rfl⟩
      · omega
      · intro e
        have : y = x := by omega
        subst this
        obtain ⟨m', hm', hu'⟩ := h.down p op y hop hx
        rw [hm] at hm'; cases hm'; exact hu hu'
  have okOf : ∀ (k : Int), (k = -1 ∨ ∃ (y : Nat) (m : OneM), k = (y : Int) ∧ os[y]? = some m ∧ m.up ≠ (p : Int)) → okK ns k := by
    rintro k (hk | ⟨y, m, rfl, hm, _⟩)
    · exact .inl hk
    · exact .inr ⟨y, rfl, by rw [h.len]; exact (List.getElem?_eq_some_iff.1 hm).1⟩
  have neC : ∀ (k : Int), (k = -1 ∨ ∃ (y : Nat) (m : OneM), k = (y : Int) ∧ os[y]? = some m ∧ m.up ≠ (p : Int)) → k ≠ (c : Int) := by
    rintro k (hk | ⟨y, m, rfl, hm, hu⟩)
    · omega
    · intro e
      have : y = c := by omega
      subst this
      rw [hoc] at hm; cases hm; exact hu hup
  have upOther : ∀ x, x ≠ c → upO (unlinkO os p c) x = upO os x := by
    intro x hx
    unfold upO
    rw [unlinkO_get]
    cases os[x]? with
    | none => rfl
    | some o => simp [hx]
  have hkc : oc.kind ≠ 5 := fun e => by have := h.alone c oc hoc (.inr e); omega
  have hhc : oc.host = -1 := by
    rcases h.host c oc hoc with e | ⟨e, _⟩
    · exact e
    · exact absurd e hkc
  have upC : upO (unlinkO os p c) c = some (-1) := by
    unfold upO
    rw [unlinkO_get, hoc]
    simp [hhc]
  refine ⟨by rw [unlinkM_len, unlinkO_len, h.len], ?_, ?_, ?_, ?_, ?_, ?_, ?_, ?_, ?_⟩
  · intro i n' o' hn' ho'
    obtain ⟨n, hn, lk⟩ := like_unlink ns c nc i n' hn'
    rw [unlinkO_get] at ho'
    obtain ⟨o, ho, sm⟩ := h.getO hn
    rw [ho] at ho'
    simp only [Option.map_some, Option.some.injEq] at ho'
    subst ho'
    refine ⟨lk.kind.trans sm.kind, lk.space.trans sm.space, lk.name.trans sm.name, lk.data.trans sm.data, lk.system.trans sm.system, lk.inner.trans sm.inner, lk.attrs.trans sm.attrs, ?_⟩
    have hpar := parent_unlink ns c nc i hclt
    rw [fld_of hn', fld_of hn] at hpar
    rw [hpar]
    by_cases e : i = c
    · simp [e]
    · simp only [e, if_false]; exact sm.up
  · intro i o' ho'
    rw [unlinkO_get] at ho'
    cases ho : os[i]? with
    | none => rw [ho] at ho'; simp at ho'
    | some o =>
      rw [ho] at ho'
      simp only [Option.map_some, Option.some.injEq] at ho'
      subst ho'
      by_cases e : i = p
      · subst e
        rw [hop] at ho; cases ho
        simp only [if_true]
        rw [hfil]
        have hK' := hK
        rw [hkids] at hK'
        exact hK'.remove hnc hpar
      · simp only [e, if_false]
        refine (h.kids i o ho).keep (unlinkM_len _ _ _) (fun k hk => ?_)
        have hk' : k = -1 ∨ ∃ (y : Nat) (m : OneM), k = (y : Int) ∧ os[y]? = some m ∧ m.up ≠ (p : Int) := by
          rcases hk with hk | ⟨x, hx, rfl⟩
          · exact .inl hk
          · obtain ⟨m, hm, hu⟩ := h.down i o x ho hx
            exact .inr ⟨x, m, rfl, hm, by omega⟩
        exact ⟨fwd_unlink_other hpar (fun e' => e e'.symm) ok1 (okOf k hk') (far k _ nbA hk') (neC k hk'), bwd_unlink_other hpar (fun e' => e e'.symm) ok2 (okOf k hk') (far k _ nbB hk') (neC k hk')⟩
  · intro i o' x ho' hx
    rw [unlinkO_get] at ho'
    rw [unlinkO_get]
    cases ho : os[i]? with
    | none => rw [ho] at ho'; simp at ho'
    | some o =>
      rw [ho] at ho'
      simp only [Option.map_some, Option.some.injEq] at ho'
      subst ho'
      by_cases e : i = p
      · subst e
        rw [hop] at ho; cases ho
        simp only [if_true] at hx
        have hx1 := List.mem_filter.1 hx
        obtain ⟨m, hm, hu⟩ := h.down i op x hop hx1.1
        have hxc : x ≠ c := by simpa using hx1.2
        rw [hm]; exact ⟨_, rfl, by simp [hxc, hu]⟩
      · simp only [e, if_false] at hx
        obtain ⟨m, hm, hu⟩ := h.down i o x ho hx
        have hxc : x ≠ c := fun e' => by subst e'; rw [hoc] at hm; cases hm; omega
        rw [hm]; exact ⟨_, rfl, by simp [hxc, hu]⟩
  · intro i o' ho'
    rw [unlinkO_get] at ho'
    cases ho : os[i]? with
    | none => rw [ho] at ho'; simp at ho'
    | some o =>
      rw [ho] at ho'
      simp only [Option.map_some, Option.some.injEq] at ho'
      subst ho'
      by_cases e : i = c
      · left; simp [e]
      · simp only [e, if_false]
        rcases h.up i o ho with hu | ⟨q, m, hu, hm, hi⟩
        · exact .inl hu
        · refine .inr ⟨q, _, hu, (unlinkO_get _ _ _ _).trans (by rw [hm]; rfl), ?_⟩
          by_cases e2 : q = p
          · simp only [e2, if_true]
            exact List.mem_filter.2 ⟨hi, by simpa using e⟩
          · simp only [e2, if_false]; exact hi
  · intro i o' ho' hk
    rw [unlinkO_get] at ho'
    cases ho : os[i]? with
    | none => rw [ho] at ho'; simp at ho'
    | some o =>
      rw [ho] at ho'
      simp only [Option.map_some, Option.some.injEq] at ho'
      subst ho'
      by_cases e : i = c
      · simp [e]
      · simp only [e, if_false]; exact h.alone i o ho hk
  · intro i n' hn' hpar'
    obtain ⟨n, hn, lk⟩ := like_unlink ns c nc i n' hn'
    obtain ⟨o, ho, sm⟩ := h.getO hn
    by_cases e : i = c
    · subst e
      have l1 : (joinM ns nc.parent.toNat nc.prev nc.next).length = ns.length := joinM_len _ _ _ _
      constructor
      · refine fld_get (f := (·.prev)) hn' ?_
        rw [unlinkM, fld_upd_keep _ _ _ _ (setNext (-1)) (fun _ => rfl)]
        exact fld_upd_same _ _ _ _ _ (by rw [upd_len, l1]; exact hclt) (fun _ => rfl)
      · refine fld_get (f := (·.next)) hn' ?_
        rw [unlinkM]
        exact fld_upd_same _ _ _ _ _ (by rw [upd_len, upd_len, l1]; exact hclt) (fun _ => rfl)
    · have hp1 := parent_unlink ns c nc i hclt
      rw [fld_of hn', fld_of hn, hpar', if_neg e] at hp1
      have hu : o.up = -1 := by rw [← sm.up]; exact hp1.symm
      obtain ⟨l1, l2⟩ := h.loose i n hn hp1.symm
      have hk' : (i : Int) = -1 ∨ ∃ (y : Nat) (m : OneM), (i : Int) = (y : Int) ∧ os[y]? = some m ∧ m.up ≠ (p : Int) := .inr ⟨i, o, rfl, ho, by omega⟩
      have hq : p ≠ p + 1 := by omega
      have f1 := fwd_unlink_other (c := c) hpar hq ok1 (okOf _ hk') (far _ _ nbA hk') (neC _ hk')
      have f2 := bwd_unlink_other (c := c) hpar hq ok2 (okOf _ hk') (far _ _ nbB hk') (neC _ hk')
      have ni : ¬ ((i : Int) = -1) := by omega
      simp only [fwd, bwd, ni, if_false, Int.toNat_natCast, fld_of hn', fld_of hn] at f1 f2
      exact ⟨f2.trans l1, f1.trans l2⟩
  · intro i o' ho'
    rw [unlinkO_get] at ho'
    cases ho : os[i]? with
    | none => rw [ho] at ho'; simp at ho'
    | some o =>
      rw [ho] at ho'
      simp only [Option.map_some, Option.some.injEq] at ho'
      subst ho'
      rcases h.inner i o ho with e | ⟨e, m, hm, hh⟩
      · exact .inl e
      · refine .inr ⟨e, _, (unlinkO_get _ _ _ _).trans (by rw [hm]; rfl), ?_⟩
        exact hh
  · intro i o' ho'
    rw [unlinkO_get] at ho'
    cases ho : os[i]? with
    | none => rw [ho] at ho'; simp at ho'
    | some o =>
      rw [ho] at ho'
      simp only [Option.map_some, Option.some.injEq] at ho'
      subst ho'
      rcases h.host i o ho with e | ⟨hk, q, m, e, hq, hm, hi⟩
      · exact .inl e
      · refine .inr ⟨hk, q, _, e, hq, (unlinkO_get _ _ _ _).trans (by rw [hm]; rfl), ?_⟩
        exact hi
  · intro i hi
    rw [unlinkO_len] at hi
    obtain ⟨pi, hpi⟩ := h.ends i hi
    exact path_turn (P := []) upC upOther rfl hpi

/-- Other data in one node. -/
theorem Sim.put {ns : List NodeM} {os : List OneM} (h : Sim ns os) (i : Nat) (f : NodeM → NodeM) (g : OneM → OneM)
    (hf : ∀ n, (f n).parent = n.parent ∧ (f n).first = n.first ∧ (f n).last = n.last ∧ (f n).prev = n.prev ∧ (f n).next = n.next)
    (hg : ∀ o, (g o).kind = o.kind ∧ (g o).inner = o.inner ∧ (g o).host = o.host ∧ (g o).up = o.up ∧ (g o).kids = o.kids)
    (hfg : ∀ n o, Same n o → Same (f n) (g o)) : Sim (upd ns i f) (os.modify i g) := by
  have getO : ∀ j, (os.modify i g)[j]? = (os[j]?).map fun o => if i = j then g o else o := fun j => by rw [List.getElem?_modify]; rfl
  have hgi : ∀ j o, (if i = j then g o else o).kind = o.kind ∧ (if i = j then g o else o).inner = o.inner ∧ (if i = j then g o else o).host = o.host ∧ (if i = j then g o else o).up = o.up ∧ (if i = j then g o else o).kids = o.kids := by
    intro j o; split
    · exact hg o
    · exact ⟨rfl, rfl, rfl, rfl, rfl⟩
  have back : ∀ (j : Nat) o', (os.modify i g)[j]? = some o' → ∃ o, os[j]? = some o ∧ o' = if i = j then g o else o := by
    intro j o' ho'
    rw [getO] at ho'
    cases ho : os[j]? with
    | none => rw [ho] at ho'; simp at ho'
    | some o => rw [ho] at ho'; simp only [Option.map_some, Option.some.injEq] at ho'; exact ⟨o, rfl, ho'.symm⟩
  have upE : upO (os.modify i g) = upO os := by
    funext j
    unfold upO
    rw [getO]
    cases os[j]? with
    | none => rfl
    | some o =>
      obtain ⟨_, _, h3, h4, _⟩ := hgi j o
      simp only [Option.map_some, h3, h4]
  refine ⟨by rw [upd_len, List.length_modify, h.len], ?_, ?_, ?_, ?_, ?_, ?_, ?_, ?_, ?_⟩
  · intro j n' o' hn' ho'
    obtain ⟨o, ho, rfl⟩ := back j o' ho'
    by_cases e : i = j
    · subst e
      obtain ⟨n, hn, sm⟩ := h.get ho
      rw [upd_get_same hn] at hn'
      cases hn'
      rw [if_pos rfl]; exact hfg n o sm
    · rw [upd_get_other ns e] at hn'
      rw [if_neg e]; exact h.same j n' o hn' ho
  · intro j o' ho'
    obtain ⟨o, ho, rfl⟩ := back j o' ho'
    rw [(hgi j o).2.2.2.2]
    refine (h.kids j o ho).keep (upd_len _ _ _) (fun k _ => ⟨?_, ?_⟩)
    · unfold fwd; split
      · exact fld_upd_keep _ _ _ _ _ (fun n => (hf n).2.1)
      · exact fld_upd_keep _ _ _ _ _ (fun n => (hf n).2.2.2.2)
    · unfold bwd; split
      · exact fld_upd_keep _ _ _ _ _ (fun n => (hf n).2.2.1)
      · exact fld_upd_keep _ _ _ _ _ (fun n => (hf n).2.2.2.1)
  · intro j o' c ho' hc
    obtain ⟨o, ho, rfl⟩ := back j o' ho'
    rw [(hgi j o).2.2.2.2] at hc
    obtain ⟨m, hm, hu⟩ := h.down j o c ho hc
    exact ⟨_, (getO c).trans (by rw [hm]; rfl), ((hgi c m).2.2.2.1).trans hu⟩
  · intro j o' ho'
    obtain ⟨o, ho, rfl⟩ := back j o' ho'
    rw [(hgi j o).2.2.2.1]
    rcases h.up j o ho with e | ⟨p, m, e, hm, hi⟩
    · exact .inl e
    · exact .inr ⟨p, _, e, (getO p).trans (by rw [hm]; rfl), by rw [(hgi p m).2.2.2.2]; exact hi⟩
  · intro j o' ho' hk
    obtain ⟨o, ho, rfl⟩ := back j o' ho'
    rw [(hgi j o).1] at hk
    rw [(hgi j o).2.2.2.1]; exact h.alone j o ho hk
  · intro j n' hn' hp
    by_cases e : i = j
    · subst e
      cases hn : ns[i]? with
      | none => rw [upd, hn] at hn'; simp only at hn'; rw [hn] at hn'; cases hn'
      | some n =>
        rw [upd_get_same hn] at hn'
        cases hn'
        obtain ⟨h1, _, _, h4, h5⟩ := hf n
        rw [h4, h5]; exact h.loose i n hn (by rw [← h1]; exact hp)
    · rw [upd_get_other ns e] at hn'; exact h.loose j n' hn' hp
  · intro j o' ho'
    obtain ⟨o, ho, rfl⟩ := back j o' ho'
    rw [(hgi j o).2.1]
    rcases h.inner j o ho with e | ⟨e, m, hm, hh⟩
    · exact .inl e
    · exact .inr ⟨e, _, (getO _).trans (by rw [hm]; rfl), ((hgi (j + 1) m).2.2.1).trans hh⟩
  · intro j o' ho'
    obtain ⟨o, ho, rfl⟩ := back j o' ho'
    rw [(hgi j o).2.2.1, (hgi j o).1]
    rcases h.host j o ho with e | ⟨hk, q, m, e, hq, hm, hi⟩
    · exact .inl e
    · exact .inr ⟨hk, q, _, e, hq, (getO q).trans (by rw [hm]; rfl), ((hgi q m).2.1).trans hi⟩
  · intro j hj
    rw [upE]
    exact h.ends j (by rw [List.length_modify] at hj; exact hj)
end Go.Proofs.YtmnmaenmoaehlaaGreatDoor
/-
  New nodes; what is above what: both still agree. Plain, no walk.
-/
namespace Go.Proofs.YtmnmaenmoaehlaaGreatDoor
open Go.RowKit

theorem Sim.adds {ns : List NodeM} {os : List OneM} (h : Sim ns os) (ms : List NodeM) (qs : List OneM) (hl : ms.length = qs.length)
    (hs : ∀ (j : Nat) m q, ms[j]? = some m → qs[j]? = some q → Same m q ∧ m.parent = -1 ∧ m.first = -1 ∧ m.last = -1 ∧ m.prev = -1 ∧ m.next = -1 ∧ q.kids = [])
    (hin : ∀ (j : Nat) q, qs[j]? = some q → q.inner = -1 ∨ (q.inner = ((os.length + j : Nat) : Int) + 1 ∧ ∃ m, qs[j + 1]? = some m ∧ m.host = ((os.length + j : Nat) : Int)))
    (hho : ∀ (j : Nat) q, qs[j]? = some q → q.host = -1 ∨ (q.kind = 5 ∧ ∃ (k : Nat) (m : OneM), j = k + 1 ∧ q.host = ((os.length + k : Nat) : Int) ∧ qs[k]? = some m ∧ m.inner = ((os.length + j : Nat) : Int) ∧ m.host = -1)) :
    Sim (ns ++ ms) (os ++ qs) := by
  have getL : ∀ i, i < os.length → (os ++ qs)[i]? = os[i]? := fun i hi => List.getElem?_append_left hi
  have getR : ∀ j, (os ++ qs)[os.length + j]? = qs[j]? := fun j => by rw [List.getElem?_append_right (by omega)]; simp
  have getNR : ∀ j, (ns ++ ms)[os.length + j]? = ms[j]? := fun j => by rw [List.getElem?_append_right (by rw [h.len]; omega), h.len]; simp
  have getNL : ∀ i, i < os.length → (ns ++ ms)[i]? = ns[i]? := fun i hi => List.getElem?_append_left (by rw [h.len]; exact hi)
  have old : ∀ {i : Nat} {o : OneM}, os[i]? = some o → i < os.length := fun ho => (List.getElem?_eq_some_iff.1 ho).1
  have cases' : ∀ (i : Nat) o, (os ++ qs)[i]? = some o → (i < os.length ∧ os[i]? = some o) ∨ ∃ j, i = os.length + j ∧ qs[j]? = some o := by
    intro i o ho
    by_cases hi : i < os.length
    · rw [getL i hi] at ho; exact .inl ⟨hi, ho⟩
    · have e : i = os.length + (i - os.length) := by omega
      rw [e, getR] at ho
      exact .inr ⟨_, e, ho⟩
  have newO : ∀ (j : Nat) q, qs[j]? = some q → ∃ m, ms[j]? = some m ∧ Same m q ∧ m.parent = -1 ∧ m.first = -1 ∧ m.last = -1 ∧ m.prev = -1 ∧ m.next = -1 ∧ q.kids = [] := by
    intro j q hq
    have hlt : j < ms.length := by rw [hl]; exact (List.getElem?_eq_some_iff.1 hq).1
    exact ⟨_, List.getElem?_eq_getElem hlt, hs j _ q (List.getElem?_eq_getElem hlt) hq⟩
  have newUp : ∀ (j : Nat) q, qs[j]? = some q → q.up = -1 := by
    intro j q hq
    obtain ⟨m, _, sm, hp, _⟩ := newO j q hq
    rw [← sm.up]; exact hp
  have upL : ∀ i, i < os.length → upO (os ++ qs) i = upO os i := fun i hi => by unfold upO; rw [getL i hi]
  have pathL : ∀ {path : List Nat} {k : Int}, PathOf (upO os) k path → PathOf (upO (os ++ qs)) k path := by
    intro path k hp
    refine path_congr (fun x hx => upL x ?_) hp
    clear upL
    induction path generalizing k with
    | nil => simp at hx
    | cons i r ih =>
      obtain ⟨rfl, m, hm, hr⟩ := hp
      rcases List.mem_cons.1 hx with rfl | hx
      · unfold upO at hm
        cases ho : os[x]? with
        | none => rw [ho] at hm; simp at hm
        | some o => exact old ho
      · exact ih hr hx
  refine ⟨by simp [h.len, hl], ?_, ?_, ?_, ?_, ?_, ?_, ?_, ?_, ?_⟩
  · intro i n o hn ho
    rcases cases' i o ho with ⟨hi, ho⟩ | ⟨j, rfl, hq⟩
    · rw [getNL i hi] at hn; exact h.same i n o hn ho
    · rw [getNR] at hn; exact (hs j n o hn hq).1
  · intro i o ho
    rcases cases' i o ho with ⟨hi, ho⟩ | ⟨j, rfl, hq⟩
    · exact (h.kids i o ho).more ms
    · obtain ⟨m, hm, _, _, h1, h2, _, _, hk⟩ := newO j o hq
      rw [hk]
      have hjl : j < ms.length := (List.getElem?_eq_some_iff.1 hm).1
      refine ⟨by simp [h.len]; omega, ⟨⟨?_, ?_⟩, trivial⟩, List.nodup_nil, by simp⟩
      · simp only [fwd, if_true, fld, getNR, hm]; exact h1
      · simp only [bwd, if_true, fld, getNR, hm]; exact h2
  · intro i o c ho hc
    rcases cases' i o ho with ⟨hi, ho⟩ | ⟨j, rfl, hq⟩
    · obtain ⟨m, hm, hu⟩ := h.down i o c ho hc
      exact ⟨m, (getL c (old hm)).trans hm, hu⟩
    · obtain ⟨m, _, _, _, _, _, _, _, hk⟩ := newO j o hq
      rw [hk] at hc; simp at hc
  · intro i o ho
    rcases cases' i o ho with ⟨hi, ho⟩ | ⟨j, rfl, hq⟩
    · rcases h.up i o ho with e | ⟨p, m, e, hm, hi⟩
      · exact .inl e
      · exact .inr ⟨p, m, e, (getL p (old hm)).trans hm, hi⟩
    · exact .inl (newUp j o hq)
  · intro i o ho hk
    rcases cases' i o ho with ⟨hi, ho⟩ | ⟨j, rfl, hq⟩
    · exact h.alone i o ho hk
    · exact newUp j o hq
  · intro i n hn hp
    by_cases hi : i < os.length
    · rw [getNL i hi] at hn; exact h.loose i n hn hp
    · rw [show i = os.length + (i - os.length) by omega, getNR] at hn
      obtain ⟨q, hq⟩ : ∃ q, qs[i - os.length]? = some q := ⟨_, List.getElem?_eq_getElem (by rw [← hl]; exact (List.getElem?_eq_some_iff.1 hn).1)⟩
      obtain ⟨_, _, _, _, h4, h5, _⟩ := hs _ n q hn hq
      exact ⟨h4, h5⟩
  · intro i o ho
    rcases cases' i o ho with ⟨hi, ho⟩ | ⟨j, rfl, hq⟩
    · rcases h.inner i o ho with e | ⟨e, m, hm, hh⟩
      · exact .inl e
      · exact .inr ⟨e, m, (getL _ (old hm)).trans hm, hh⟩
    · rcases hin j o hq with e | ⟨e, m, hm, hh⟩
      · exact .inl e
      · exact .inr ⟨e, m, (getR (j + 1)).trans hm, hh⟩
  · intro i o ho
    rcases cases' i o ho with ⟨hi, ho⟩ | ⟨j, rfl, hq⟩
    · rcases h.host i o ho with e | ⟨hk, q, m, e, hq, hm, hi⟩
      · exact .inl e
      · exact .inr ⟨hk, q, m, e, hq, (getL q (old hm)).trans hm, hi⟩
    · rcases hho j o hq with e | ⟨hk, k, m, rfl, e, hm, hi, _⟩
      · exact .inl e
      · exact .inr ⟨hk, os.length + k, m, e, by omega, (getR k).trans hm, hi⟩
  · intro i hi
    by_cases hlt : i < os.length
    · obtain ⟨path, hp⟩ := h.ends i hlt
      exact ⟨path, pathL hp⟩
    · obtain ⟨j, rfl⟩ : ∃ j, i = os.length + j := ⟨i - os.length, by omega⟩
      have hj : j < qs.length := by simp at hi; omega
      have hq : qs[j]? = some qs[j] := List.getElem?_eq_getElem hj
      rcases hho j _ hq with e | ⟨hk, k, m, rfl, e, hm, hi, hh⟩
      · refine ⟨[os.length + j], rfl, -1, ?_, rfl⟩
        unfold upO; rw [getR, hq]; simp [newUp j _ hq, e]
      · refine ⟨[os.length + (k + 1), os.length + k], rfl, _, ?_, rfl, -1, ?_, rfl⟩
        · unfold upO; rw [getR, hq]; simp only [Option.map_some, newUp _ _ hq, if_true, e]
        · unfold upO; rw [getR, hm]; simp [newUp k m hm, hh]

theorem Sim.nil : Sim [] [] :=
  ⟨rfl, fun _ _ _ h => by simp at h, fun _ _ h => by simp at h, fun _ _ _ h => by simp at h, fun _ _ h => by simp at h, fun _ _ h => by simp at h, fun _ _ h => by simp at h, fun _ _ h => by simp at h, fun _ _ h => by simp at h, fun _ h => by simp at h⟩

/-- A node more, without links. -/
theorem Sim.add1 {ns : List NodeM} {os : List OneM} (h : Sim ns os) (m : NodeM) (q : OneM) (hs : Same m q) (h1 : m.parent = -1 ∧ m.first = -1 ∧ m.last = -1 ∧ m.prev = -1 ∧ m.next = -1) (hk : q.kids = []) (hi : q.inner = -1) (hh : q.host = -1) : Sim (ns ++ [m]) (os ++ [q]) := by
  have one : ∀ {α : Type} {x y : α} {j : Nat}, [x][j]? = some y → y = x := fun {α x y j} e => by
    have := List.mem_of_getElem? e
    simpa using this
  refine h.adds [m] [q] rfl (fun j m' q' hm hq => ?_) (fun j q' hq => ?_) (fun j q' hq => ?_)
  · rw [one hm, one hq]; exact ⟨hs, h1.1, h1.2.1, h1.2.2.1, h1.2.2.2.1, h1.2.2.2.2, hk⟩
  · rw [one hq]; exact .inl hi
  · rw [one hq]; exact .inl hh

/-- A template and its contents. -/
theorem Sim.add2 {ns : List NodeM} {os : List OneM} (h : Sim ns os) (m1 m2 : NodeM) (q1 q2 : OneM) (hs1 : Same m1 q1) (hs2 : Same m2 q2) (h1 : m1.parent = -1 ∧ m1.first = -1 ∧ m1.last = -1 ∧ m1.prev = -1 ∧ m1.next = -1) (h2 : m2.parent = -1 ∧ m2.first = -1 ∧ m2.last = -1 ∧ m2.prev = -1 ∧ m2.next = -1)
    (k1 : q1.kids = []) (k2 : q2.kids = []) (i1 : q1.inner = (os.length : Int) + 1) (i2 : q2.inner = -1) (o1 : q1.host = -1) (o2 : q2.host = (os.length : Int)) (hk : q2.kind = 5) : Sim (ns ++ [m1, m2]) (os ++ [q1, q2]) := by
  have two : ∀ {α : Type} {x y z : α} {j : Nat}, [x, y][j]? = some z → (j = 0 ∧ z = x) ∨ (j = 1 ∧ z = y) := fun {α x y z j} e => by
    match j, e with
    | 0, e => simp at e; exact .inl ⟨rfl, e.symm⟩
    | 1, e => simp at e; exact .inr ⟨rfl, e.symm⟩
  refine h.adds [m1, m2] [q1, q2] rfl (fun j m' q' hm hq => ?_) (fun j q' hq => ?_) (fun j q' hq => ?_)
  · rcases two hm with ⟨rfl, rfl⟩ | ⟨rfl, rfl⟩
    · simp at hq; subst hq; exact ⟨hs1, h1.1, h1.2.1, h1.2.2.1, h1.2.2.2.1, h1.2.2.2.2, k1⟩
    · simp at hq; subst hq; exact ⟨hs2, h2.1, h2.2.1, h2.2.2.1, h2.2.2.2.1, h2.2.2.2.2, k2⟩
  · rcases two hq with ⟨rfl, rfl⟩ | ⟨rfl, rfl⟩
    · exact .inr ⟨by simpa using i1, q2, by simp, by simpa using o2⟩
    · exact .inl i2
  · rcases two hq with ⟨rfl, rfl⟩ | ⟨rfl, rfl⟩
    · exact .inl o1
    · exact .inr ⟨hk, 0, q1, rfl, by simpa using o2, by simp, by simpa using i1, o1⟩

theorem Sim.new : Sim [blankM 0] [oneM 0] :=
  Sim.nil.add1 (blankM 0) (oneM 0) ⟨rfl, rfl, rfl, rfl, rfl, rfl, rfl, rfl⟩ ⟨rfl, rfl, rfl, rfl, rfl⟩ rfl rfl rfl

theorem mem_inPath {path : List Nat} {c : Nat} : inPath path (c : Int) = true ↔ c ∈ path := by
  unfold inPath
  rw [List.any_eq_true]
  constructor
  · rintro ⟨x, hx, e⟩
    have : x = c := by have := of_decide_eq_true e; omega
    exact this ▸ hx
  · intro h; exact ⟨c, h, by simp⟩

/-- Whoever stands above another one has a child, or contents. -/
theorem Sim.above_has {ns : List NodeM} {os : List OneM} (h : Sim ns os) {c : Nat} {oc : OneM} (hoc : os[c]? = some oc) (hk : oc.kids = []) (hi : oc.inner = -1) : ∀ {path : List Nat} {k : Int}, PathOf (upO os) k path → c ∈ path → k = (c : Int)
  | [], _, _, hc => by simp at hc
  | i :: r, k, hp, hc => by
    obtain ⟨rfl, m, hm, hr⟩ := hp
    rcases List.mem_cons.1 hc with rfl | hc
    · rfl
    · have hmc := h.above_has hoc hk hi hr hc
      subst hmc
      unfold upO at hm
      cases ho : os[i]? with
      | none => rw [ho] at hm; simp at hm
      | some o =>
        rw [ho] at hm
        simp only [Option.map_some, Option.some.injEq] at hm
        by_cases hu : o.up = -1
        · rw [if_pos hu] at hm
          rcases h.host i o ho with e | ⟨_, q, mm, e, hq, hmm, hin⟩
          · omega
          · have : q = c := by omega
            subst this
            rw [hoc] at hmm; cases hmm; omega
        · rw [if_neg hu] at hm
          rcases h.up i o ho with e | ⟨q, mm, e, hmm, hin⟩
          · exact absurd e hu
          · have : q = c := by omega
            subst this
            rw [hoc] at hmm; cases hmm
            rw [hk] at hin; simp at hin

theorem Sim.first_nil {ns : List NodeM} {os : List OneM} (h : Sim ns os) {i : Nat} {n : NodeM} {o : OneM} (hn : ns[i]? = some n) (ho : os[i]? = some o) : n.first = headI o.kids ∧ n.last = lastK o.kids := by
  have hK := h.kids i o ho
  constructor
  · obtain ⟨Y, hY⟩ := cut_right o.kids
    have hch := hK.chain
    rw [ring_eq, hY] at hch
    have := hch.1.1
    simpa [fwd, fld, hn] using this
  · obtain ⟨X, hX⟩ := cut_left o.kids
    have hch := hK.chain
    have hr : ring o.kids = X ++ lastK o.kids :: -1 :: [] := by rw [ring_eq, ← List.cons_append, hX]; simp
    rw [hr, Ch_append] at hch
    have := hch.2.1.2
    simpa [bwd, fld, hn] using this

theorem Sim.covers {ns : List NodeM} {os : List OneM} (h : Sim ns os) {c p : Nat} {nc : NodeM} (hnc : ns[c]? = some nc) {path : List Nat} (hpath : PathOf (upO os) p path) : coversM c nc p path = inPath path c := by
  obtain ⟨oc, hoc, sm⟩ := h.getO hnc
  unfold coversM
  split
  · rename_i hcnd
    have hk : oc.kids = [] := by
      have := (h.first_nil hnc hoc).1
      rw [hcnd.1] at this
      cases hks : oc.kids with
      | nil => rfl
      | cons x l => rw [hks] at this; simp [headI] at this
    have hi : oc.inner = -1 := by rw [← sm.inner]; exact hcnd.2
    by_cases e : c = p
    · subst e
      rw [mem_inPath.2 (path_head hpath)]; simp
    · have : inPath path c = false := by
        rw [Bool.eq_false_iff]; intro hm
        have := h.above_has hoc hk hi hpath (mem_inPath.1 hm)
        omega
      rw [this]; simpa using e
  · rfl
end Go.Proofs.YtmnmaenmoaehlaaGreatDoor
/-
  What the calls of package node do to an arena, told by its plain nodes.
-/
namespace Go.Proofs.YtmnmaenmoaehlaaGreatDoor
open Go.RowKit

def kindO (os : List OneM) (k : Int) : Int := ((os[k.toNat]?).map (·.kind)).getD (-1)
def upIO (os : List OneM) (k : Int) : Int := ((os[k.toNat]?).map (·.up)).getD (-1)
def kidsO (os : List OneM) (k : Int) : List Nat := if hasO os k then ((os[k.toNat]?).map (·.kids)).getD [] else []
/-- The way up from a node, walked with so much breath. -/
def pathO (f : Nat → Option Int) : Nat → Int → Option (List Nat)
  | 0, k => if k = -1 then some [] else none
  | c + 1, k => if k = -1 then some [] else if 0 ≤ k then (match f k.toNat with
    | some m => (pathO f c m).map (k.toNat :: ·)
    | none => none) else none
def aboveO (os : List OneM) (i j : Int) : Bool := hasO os i && hasO os j && ((pathO (upO os) os.length i).map (inPath · j)).getD false

theorem pathO_sound {f : Nat → Option Int} : ∀ {c : Nat} {k : Int} {path : List Nat}, pathO f c k = some path → PathOf f k path
  | 0, k, path, h => by
    unfold pathO at h
    split at h
    · cases h; assumption
    · cases h
  | c + 1, k, path, h => by
    unfold pathO at h
    split at h
    · cases h; assumption
    · split at h
      · cases hf : f k.toNat with
        | none => rw [hf] at h; cases h
        | some m =>
          rw [hf] at h
          replace h : Option.map (fun x => k.toNat :: x) (pathO f c m) = some path := h
          cases hp : pathO f c m with
          | none => rw [hp] at h; cases h
          | some r =>
            rw [hp] at h
            cases h
            exact ⟨by omega, m, hf, pathO_sound hp⟩
      · cases h
theorem pathO_full {f : Nat → Option Int} : ∀ {path : List Nat} {c : Nat} {k : Int}, PathOf f k path → path.length ≤ c → pathO f c k = some path
  | [], c, k, h, _ => by
    have h0 : k = -1 := h
    cases c <;> (unfold pathO; rw [if_pos h0])
  | i :: r, c, k, h, hl => by
    obtain ⟨e, m, hm, hr⟩ := h
    cases c with
    | zero => simp at hl
    | succ c =>
      have ih := pathO_full hr (c := c) (by simpa using hl)
      subst e
      unfold pathO
      rw [if_neg (by omega), if_pos (by omega), Int.toNat_natCast, hm]
      simp only [ih, Option.map_some]
theorem path_tail {f : Nat → Option Int} {x : Nat} : ∀ {l : List Nat} {k : Int}, PathOf f k l → x ∈ l → ∃ t, PathOf f x t ∧ t.length ≤ l.length
  | [], _, _, hx => by cases hx
  | i :: r, k, h, hx => by
    by_cases e : i = x
    · subst e
      exact ⟨i :: r, ⟨rfl, h.2⟩, Nat.le_refl _⟩
    · obtain ⟨_, m, hm, hr⟩ := h
      obtain ⟨t, ht, hl⟩ := path_tail hr ((List.mem_cons.1 hx).resolve_left (fun e2 => e e2.symm))
      exact ⟨t, ht, by simp; omega⟩
theorem path_nodup {f : Nat → Option Int} : ∀ {l : List Nat} {k : Int}, PathOf f k l → l.Nodup
  | [], _, _ => List.nodup_nil
  | i :: r, k, h => by
    obtain ⟨e, m, hm, hr⟩ := h
    refine List.nodup_cons.2 ⟨fun hin => ?_, path_nodup hr⟩
    obtain ⟨t, ht, hl⟩ := path_tail hr hin
    have h2 : PathOf f i (i :: r) := ⟨rfl, m, hm, hr⟩
    have e2 := path_one ht h2
    rw [e2] at hl
    simp at hl
    omega
theorem path_in {os : List OneM} : ∀ {l : List Nat} {k : Int}, PathOf (upO os) k l → ∀ x ∈ l, x < os.length
  | [], _, _, x, hx => by cases hx
  | i :: r, k, h, x, hx => by
    obtain ⟨e, m, hm, hr⟩ := h
    rcases List.mem_cons.1 hx with rfl | hx
    · unfold upO at hm
      cases ho : os[x]? with
      | none => rw [ho] at hm; cases hm
      | some o => exact (List.getElem?_eq_some_iff.1 ho).1
    · exact path_in hr x hx
open Classical in
theorem aboveO_eq (os : List OneM) (i j : Int) : aboveO os i j = (hasO os i && hasO os j && decide (∃ path, PathOf (upO os) i path ∧ inPath path j = true)) := by
  unfold aboveO
  congr 1
  cases hp : pathO (upO os) os.length i with
  | some path =>
    have h1 := pathO_sound hp
    show inPath path j = _
    cases h : inPath path j with
    | true => exact (decide_eq_true ⟨path, h1, h⟩).symm
    | false =>
      refine (decide_eq_false ?_).symm
      rintro ⟨p2, hp2, h2⟩
      rw [path_one hp2 h1, h] at h2; cases h2
  | none =>
    refine (decide_eq_false ?_).symm
    rintro ⟨p2, hp2, h2⟩
    have := pathO_full hp2 (c := os.length) (by
      have := List.Nodup.length_le_of_subset (path_nodup hp2) (l₂ := List.range os.length) (fun x hx => List.mem_range.2 (path_in hp2 x hx))
      simpa using this)
    rw [hp] at this; cases this
def linkE (os : List OneM) (p c b : Int) : Int :=
  if (hasO os p && hasO os c && (b == -1 || hasO os b)) = false then 6
  else if parentM (kindO os p) = false ∨ kindO os c = 0 ∨ kindO os c = 5 then 10
  else if upIO os c ≠ -1 ∨ aboveO os p c = true then 11
  else if b ≠ -1 ∧ upIO os b ≠ p then 1 else 0
def linkR (os : List OneM) (p c b : Int) : List OneM := if linkE os p c b = 0 then linkO os p.toNat c.toNat b else os
def unlinkE (os : List OneM) (c : Int) : Int := if hasO os c = false then 6 else if upIO os c = -1 then 5 else 0
def unlinkR (os : List OneM) (c : Int) : List OneM := if unlinkE os c = 0 then unlinkO os (upIO os c).toNat c.toNat else os

theorem Sim.hasM {ns : List NodeM} {os : List OneM} (h : Sim ns os) (k : Int) : hasM ns k = hasO os k := by simp [YtmnmaenmoaehlaaGreatDoor.hasM, hasO, h.len]

theorem kindO_of {os : List OneM} {i : Nat} {o : OneM} (h : os[i]? = some o) : kindO os (i : Int) = o.kind := by simp [kindO, h]
theorem upIO_of {os : List OneM} {i : Nat} {o : OneM} (h : os[i]? = some o) : upIO os (i : Int) = o.up := by simp [upIO, h]
theorem kidsO_of {os : List OneM} {i : Nat} {o : OneM} (h : os[i]? = some o) : kidsO os (i : Int) = o.kids := by simp [kidsO, h, hasO_of h]

open Classical in
theorem aboveO_of {os : List OneM} {i : Nat} {o : OneM} (ho : os[i]? = some o) {j : Int} (hj : hasO os j = true) {path : List Nat} (hp : PathOf (upO os) i path) : aboveO os i j = inPath path j := by
  rw [aboveO_eq]
  rw [hasO_of ho, hj]
  simp only [Bool.and_self, Bool.true_and]
  cases h : inPath path j with
  | true => exact decide_eq_true ⟨path, hp, h⟩
  | false =>
    refine decide_eq_false ?_
    rintro ⟨p2, hp2, h2⟩
    rw [path_one hp2 hp, h] at h2; cases h2

theorem mayM_eq {ns : List NodeM} {os : List OneM} (h : Sim ns os) {p c : Nat} {np nc : NodeM} (hp : ns[p]? = some np) (hc : ns[c]? = some nc) {b : Int} (hb : b = -1 ∨ hasO os b = true) {path : List Nat} (hpath : PathOf (upO os) p path) : mayM ns p np c nc b path = linkE os p c b := by
  obtain ⟨op, hop, smp⟩ := h.getO hp
  obtain ⟨oc, hoc, smc⟩ := h.getO hc
  unfold mayM linkE
  have e0 : ¬ ((hasO os p && hasO os c && (b == -1 || hasO os b)) = false) := by
    rw [hasO_of hop, hasO_of hoc]
    rcases hb with rfl | hb
    · simp
    · simp [hb]
  rw [if_neg e0, kindO_of hop, kindO_of hoc, upIO_of hoc, h.covers hc hpath, aboveO_of hop (hasO_of hoc) hpath, smp.kind, smc.kind, smc.up]
  have e1 : (b ≠ -1 ∧ (ns[b.toNat]?).map (·.parent) ≠ some (p : Int)) ↔ (b ≠ -1 ∧ upIO os b ≠ (p : Int)) := by
    constructor
    · rintro ⟨h1, h2⟩
      refine ⟨h1, fun e => h2 ?_⟩
      obtain ⟨i, o, rfl, ho⟩ := hasO_yes (hb.resolve_left h1)
      obtain ⟨n, hn, sm⟩ := h.get ho
      rw [upIO_of ho] at e
      simp [hn, sm.up, e]
    · rintro ⟨h1, h2⟩
      refine ⟨h1, fun e => h2 ?_⟩
      obtain ⟨i, o, rfl, ho⟩ := hasO_yes (hb.resolve_left h1)
      obtain ⟨n, hn, sm⟩ := h.get ho
      rw [upIO_of ho]
      simp [hn, sm.up] at e
      exact e
  simp only [e1]

theorem hasO_okK {ns : List NodeM} {os : List OneM} (h : Sim ns os) {b : Int} (hb : b = -1 ∨ hasO os b = true) : okK ns b := by
  rcases hb with rfl | hb
  · exact .inl rfl
  · obtain ⟨i, o, rfl, ho⟩ := hasO_yes hb
    exact .inr ⟨i, rfl, by rw [h.len]; exact (List.getElem?_eq_some_iff.1 ho).1⟩

theorem link_sim {w : World} {base bA : Nat} {ns : List NodeM} {os : List OneM} {F : Nat → Prop} (ha : ArS w base bA ns F) (hs : Sim ns os) (p c b : Int) :
    Calls Tryz.prog 14 #[.pointer (some ⟨bA, 0, none⟩), .int .i64 p, .int .i64 c, .int .i64 b] w fun e w' => e = .returned (.int .i64 (linkE os p c b)) ∧ ∃ ms, Upd F w w' base bA ms ∧ Sim ms (linkR os p c b) := by
  have ha' := ha
  obtain ⟨bS, g, cap, h, hF⟩ := ha
  by_cases hno : (hasO os p && hasO os c && (b == -1 || hasO os b)) = false
  · have e6 : linkE os p c b = 6 := by rw [linkE, if_pos hno]
    have hr : linkR os p c b = os := by rw [linkR, e6, if_neg (by decide)]
    rw [e6, hr]
    have hm := mayLink_none h p c b (by rw [hs.hasM, hs.hasM, hs.hasM]; exact hno)
    refine (link_err p c b 6 (by decide) (hm.mono fun e w' ⟨h1, h2⟩ => ⟨h1, h2 ▸ Below.refl _ _⟩) h).mono fun e w' ⟨h1, h2⟩ => ⟨h1, ns, ha'.upd h2, hs⟩
  · have hno' : hasO os p = true ∧ hasO os c = true ∧ (b = -1 ∨ hasO os b = true) := by
      have := hno
      simp only [Bool.not_eq_false, Bool.and_eq_true, Bool.or_eq_true, beq_iff_eq] at this
      exact ⟨this.1.1, this.1.2, this.2⟩
    obtain ⟨hp, hc, hb⟩ := hno'
    obtain ⟨pi, op, rfl, hop⟩ := hasO_yes hp
    obtain ⟨ci, oc, rfl, hoc⟩ := hasO_yes hc
    obtain ⟨np, hnp, smp⟩ := hs.get hop
    obtain ⟨nc, hnc, smc⟩ := hs.get hoc
    obtain ⟨path, hpath⟩ := hs.ends pi (List.getElem?_eq_some_iff.1 hop).1
    have hpath' : PathOf (upF ns) pi path := by rw [hs.upF]; exact hpath
    have hbk := hasO_okK hs hb
    have hm := mayLink_in h pi np hnp ci nc hnc b hbk path hpath'
    have hme := mayM_eq hs hnp hnc hb hpath
    rw [hme] at hm
    by_cases e0 : linkE os pi ci b = 0
    · have hr : linkR os pi ci b = linkO os pi ci b := by rw [linkR, if_pos e0]; simp
      rw [e0, hr]
      have e0' := e0
      unfold linkE at e0'
      rw [if_neg hno] at e0'
      split at e0'
      · cases e0'
      · rename_i k1
        split at e0'
        · cases e0'
        · rename_i k2
          split at e0'
          · cases e0'
          · rename_i k3
            rw [kindO_of hop, kindO_of hoc] at k1
            rw [upIO_of hoc, aboveO_of hop (hasO_of hoc) hpath] at k2
            have hup : oc.up = -1 := Decidable.byContradiction fun e => k2 (.inl e)
            have hnot : ci ∉ path := fun e => k2 (.inr (mem_inPath.2 e))
            have hmem : b = -1 ∨ ∃ x ∈ op.kids, b = (x : Int) := by
              rcases hb with hb | hb
              · exact .inl hb
              · by_cases hb1 : b = -1
                · exact .inl hb1
                · obtain ⟨bi, ob, rfl, hob⟩ := hasO_yes hb
                  have hub : ob.up = (pi : Int) := Decidable.byContradiction fun e => k3 ⟨hb1, by rw [upIO_of hob]; exact e⟩
                  rcases hs.up bi ob hob with e | ⟨q, m, e, hqm, hi⟩
                  · omega
                  · have : q = pi := by omega
                    subst this
                    rw [hop] at hqm; cases hqm
                    exact .inr ⟨bi, hi, rfl⟩
            have hsim := hs.link hnp hop hoc hup (fun e => k1 (.inr (.inl e))) (fun e => k1 (.inr (.inr e))) hmem hpath hnot
            obtain ⟨A, B, hAB, _, hhead⟩ := insO_cut (hs.kids pi op hop).nodup hmem ci
            have hpv := hs.prev hnp hop hAB
            rw [hhead] at hpv
            refine (link_ok h pi np hnp ci nc hnc b hbk path hpath' (hme.trans e0) (by rw [hpv.1]; exact hpv.2.1)).mono fun e w' ⟨h1, h2, h3⟩ => ⟨h1, _, upd_of_mod hF h2 h3 (fun k hk => foot_link _ _ _ _ _ k hk), hsim⟩
    · have hr : linkR os pi ci b = os := by rw [linkR, if_neg e0]
      rw [hr]
      exact (link_err pi ci b _ e0 hm h).mono fun e w' ⟨h1, h2⟩ => ⟨h1, ns, ha'.upd h2, hs⟩

theorem above_sim {w : World} {base bA : Nat} {ns : List NodeM} {os : List OneM} {F : Nat → Prop} (ha : ArS w base bA ns F) (hs : Sim ns os) (i j : Int) :
    Calls Tryz.prog 89 #[.pointer (some ⟨bA, 0, none⟩), .int .i64 i, .int .i64 j] w fun e w' => e = .returned (.bool (aboveO os i j)) ∧ Below w.heap.size w w' := by
  obtain ⟨bS, g, cap, h, hF⟩ := ha
  cases hh : (hasO os i && hasO os j) with
  | false =>
    have e : aboveO os i j = false := by rw [aboveO_eq]; rw [hh]; rfl
    rw [e]
    exact above_no h i j (by rw [hs.hasM, hs.hasM]; exact hh)
  | true =>
    rw [Bool.and_eq_true] at hh
    obtain ⟨ii, oi, rfl, hoi⟩ := hasO_yes hh.1
    obtain ⟨path, hpath⟩ := hs.ends ii (List.getElem?_eq_some_iff.1 hoi).1
    rw [aboveO_of hoi hh.2 hpath]
    exact above_yes h ii (by rw [hs.len]; exact (List.getElem?_eq_some_iff.1 hoi).1) j path (by rw [hs.upF]; exact hpath)

end Go.Proofs.YtmnmaenmoaehlaaGreatDoor
/-
  What the calls of package node that make or change a node do to an arena, told by its plain nodes.
-/
namespace Go.Proofs.YtmnmaenmoaehlaaGreatDoor
open Go.RowKit

def USim (F : Nat → Prop) (w w' : World) (base bA : Nat) (os : List OneM) : Prop := ∃ ms, Upd F w w' base bA ms ∧ Sim ms os

section
variable {w : World} {base bA : Nat} {ns : List NodeM} {os : List OneM} {F : Nat → Prop}

theorem data_sim {K : Nat} (hs : Sim ns os) (kind : Int) (s : ByteArray) (hc : Calls Tryz.prog K #[.pointer (some ⟨bA, 0, none⟩), .string s] w fun e w' => e = .returned (.tuple #[.int .i64 (dataR ns kind s).2.1, .int .i64 (dataR ns kind s).2.2]) ∧ Upd F w w' base bA (dataR ns kind s).1) :
    Calls Tryz.prog K #[.pointer (some ⟨bA, 0, none⟩), .string s] w fun e w' => e = .returned (.tuple #[.int .i64 (dataO os kind s).2.1, .int .i64 (dataO os kind s).2.2]) ∧ USim F w w' base bA (dataO os kind s).1 := by
  refine hc.mono fun e w' ⟨h1, h2⟩ => ?_
  unfold dataR at h1 h2
  unfold dataO addO
  rw [← hs.len]
  by_cases hl : longS s = true
  · simp only [hl, if_true] at h1 h2 ⊢
    exact ⟨h1, ns, h2, hs⟩
  · simp only [hl] at h1 h2 ⊢
    by_cases hf : ns.length + 1 ≤ 32768
    · simp only [hf, if_true] at h1 h2 ⊢
      exact ⟨h1, _, h2, hs.add1 _ _ ⟨rfl, rfl, rfl, rfl, rfl, rfl, rfl, rfl⟩ ⟨rfl, rfl, rfl, rfl, rfl⟩ rfl rfl rfl⟩
    · simp only [hf, if_false] at h1 h2 ⊢
      exact ⟨h1, ns, h2, hs⟩

theorem text_sim (ha : ArS w base bA ns F) (hs : Sim ns os) (s : ByteArray) :
    Calls Tryz.prog 16 #[.pointer (some ⟨bA, 0, none⟩), .string s] w fun e w' => e = .returned (.tuple #[.int .i64 (dataO os 2 s).2.1, .int .i64 (dataO os 2 s).2.2]) ∧ USim F w w' base bA (dataO os 2 s).1 := data_sim hs 2 s (text_any ha s)
theorem comment_sim (ha : ArS w base bA ns F) (hs : Sim ns os) (s : ByteArray) :
    Calls Tryz.prog 18 #[.pointer (some ⟨bA, 0, none⟩), .string s] w fun e w' => e = .returned (.tuple #[.int .i64 (dataO os 3 s).2.1, .int .i64 (dataO os 3 s).2.2]) ∧ USim F w w' base bA (dataO os 3 s).1 := data_sim hs 3 s (comment_any ha s)

theorem element_sim (ha : ArS w base bA ns F) (hs : Sim ns os) (space : Int) (name : ByteArray) (a : Option Addr) (cap : Nat) (l : List AttrM) (hl : AttrsIn w a l) (hn : l.length ≤ maxLen) :
    Calls Tryz.prog 12 #[.pointer (some ⟨bA, 0, none⟩), .int .i64 space, .string name, .slice a l.length cap] w fun e w' => e = .returned (.tuple #[.int .i64 (elemO os space name l).2.1, .int .i64 (elemO os space name l).2.2]) ∧ USim F w w' base bA (elemO os space name l).1 := by
  unfold elemO addO
  rw [← hs.len]
  by_cases h1 : space < 0 ∨ 2 < space
  · simp only [h1, if_true]
    exact (element_space ha space name _ h1).mono fun e w' ⟨h1, h2⟩ => ⟨h1, ns, ha.upd (h2 ▸ Below.refl _ _), hs⟩
  · simp only [h1, if_false]
    have h1' : 0 ≤ space ∧ space ≤ 2 := by omega
    cases h2 : longE name l with
    | true =>
      simp only [if_true]
      exact (element_long ha space name a cap l hl hn h1' h2).mono fun e w' ⟨h1, h2⟩ => ⟨h1, ns, ha.upd h2, hs⟩
    | false =>
      by_cases h3 : space = 0 ∧ isT name = true
      · rw [if_neg (by decide), if_pos h3]
        obtain ⟨rfl, h3⟩ := h3
        by_cases hf : ns.length + 2 ≤ 32768
        · simp only [hf, if_true]
          refine (element_tmpl ha name a cap l hl h3 h2 hf).mono fun e w' ⟨h1, av, h2⟩ => ⟨h1, _, h2, ?_⟩
          have := hs.len
          exact hs.add2 _ _ _ _ ⟨rfl, rfl, rfl, rfl, rfl, by simp, rfl, rfl⟩ ⟨rfl, rfl, rfl, rfl, rfl, rfl, rfl, rfl⟩ ⟨rfl, rfl, rfl, rfl, rfl⟩ ⟨rfl, rfl, rfl, rfl, rfl⟩ rfl rfl (by simp [this]) rfl rfl (by simp [this]) rfl
        · simp only [hf, if_false]
          exact (element_full2 ha name a cap l hl h3 h2 hf).mono fun e w' ⟨h1, h2⟩ => ⟨h1, ns, ha.upd h2, hs⟩
      · rw [if_neg (by decide), if_neg h3]
        have hsp : space = 1 ∨ space = 2 ∨ (space = 0 ∧ isT name = false) := by
          by_cases e0 : space = 0
          · exact .inr (.inr ⟨e0, by simpa [e0] using h3⟩)
          · omega
        by_cases hf : ns.length + 1 ≤ 32768
        · simp only [hf, if_true]
          exact (element_plain ha space name a cap l hl hsp h2 hf).mono fun e w' ⟨h1, av, h2⟩ => ⟨h1, _, h2, hs.add1 _ _ ⟨rfl, rfl, rfl, rfl, rfl, rfl, rfl, rfl⟩ ⟨rfl, rfl, rfl, rfl, rfl⟩ rfl rfl rfl⟩
        · simp only [hf, if_false]
          exact (element_full1 ha space name a cap l hl hsp h2 hf).mono fun e w' ⟨h1, h2⟩ => ⟨h1, ns, ha.upd h2, hs⟩

def setDataE (os : List OneM) (k : Int) (s : ByteArray) : Int := if hasO os k = false then 6 else if kindO os k ≠ 2 ∧ kindO os k ≠ 3 then 10 else if longS s then 2 else 0
def setDataR (os : List OneM) (k : Int) (s : ByteArray) : List OneM := if setDataE os k s = 0 then os.modify k.toNat fun o => { o with data := s } else os

end
end Go.Proofs.YtmnmaenmoaehlaaGreatDoor
