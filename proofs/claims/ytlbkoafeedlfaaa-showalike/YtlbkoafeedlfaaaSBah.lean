/-
  The children of one node as a ring of neighbours: what join does to it, a child put in, a child taken out. No walk here.
-/
import Derived.Test.YtlbkoafeedlfaaaSBaf
import Derived.Test.YtlbkoafeedlfaaaSBag
namespace Go.Proofs.Ytlbkoafeedlfaaa

def fld (f : NodeM → Int) (ns : List NodeM) (i : Nat) : Int := ((ns[i]?).map f).getD (-1)

theorem fld_of {f : NodeM → Int} {ns : List NodeM} {i : Nat} {n : NodeM} (h : ns[i]? = some n) : fld f ns i = f n := by simp [fld, h]

theorem fld_upd_same (f : NodeM → Int) (ns : List NodeM) (i : Nat) (F : NodeM → NodeM) (v : Int) (hi : i < ns.length) (hv : ∀ n, f (F n) = v) : fld f (upd ns i F) i = v := by
  have hn : ns[i]? = some ns[i] := List.getElem?_eq_getElem hi
  rw [fld, upd_get_same hn]; simp [hv]
theorem fld_upd_other (f : NodeM → Int) (ns : List NodeM) {i j : Nat} (h : i ≠ j) (F : NodeM → NodeM) : fld f (upd ns i F) j = fld f ns j := by rw [fld, upd_get_other ns h]; rfl
theorem fld_upd_keep (f : NodeM → Int) (ns : List NodeM) (i j : Nat) (F : NodeM → NodeM) (hF : ∀ n, f (F n) = f n) : fld f (upd ns i F) j = fld f ns j := by
  by_cases e : i = j
  · subst e
    cases h : ns[i]? with
    | none => simp [fld, upd, h]
    | some n => rw [fld, upd_get_same h]; simp [fld, h, hF]
  · exact fld_upd_other f ns e F

/-- The next one of k among the children of p; -1 is ahead of the first, and behind the last. -/
def fwd (ns : List NodeM) (p : Nat) (k : Int) : Int := if k = -1 then fld (·.first) ns p else fld (·.next) ns k.toNat
def bwd (ns : List NodeM) (p : Nat) (k : Int) : Int := if k = -1 then fld (·.last) ns p else fld (·.prev) ns k.toNat

theorem okK_nat {ns : List NodeM} {k : Int} (h : okK ns k) (hk : k ≠ -1) : k.toNat < ns.length ∧ (k.toNat : Int) = k := by
  rcases h with h | ⟨i, rfl, hi⟩
  · exact absurd h hk
  · exact ⟨by simpa using hi, by simp⟩

theorem toNat_ne {ns : List NodeM} {a k : Int} (ha : okK ns a) (hk : okK ns k) (h1 : a ≠ -1) (h2 : k ≠ -1) (hne : k ≠ a) : a.toNat ≠ k.toNat := by
  have e1 := (okK_nat ha h1).2
  have e2 := (okK_nat hk h2).2
  intro e; apply hne; rw [← e1, ← e2, e]

theorem fwd_joinA {ns : List NodeM} {p : Nat} {a b : Int} (hp : p < ns.length) (ha : okK ns a) {k : Int} (hk : okK ns k) : fwd (joinA ns p a b) p k = if k = a then b else fwd ns p k := by
  unfold joinA fwd
  by_cases h1 : a = -1
  · rw [if_pos h1]
    by_cases h2 : k = -1
    · rw [if_pos h2, if_pos (by rw [h1, h2])]; exact fld_upd_same _ _ _ _ _ hp (fun _ => rfl)
    · rw [if_neg h2, if_neg (by rw [h1]; exact h2), if_neg h2]; exact fld_upd_keep _ _ _ _ _ (fun _ => rfl)
  · rw [if_neg h1]
    by_cases h2 : k = -1
    · rw [if_pos h2, if_neg (by rw [h2]; exact fun e => h1 e.symm), if_pos h2]; exact fld_upd_keep _ _ _ _ _ (fun _ => rfl)
    · rw [if_neg h2, if_neg h2]
      by_cases h3 : k = a
      · rw [if_pos h3, h3]; exact fld_upd_same _ _ _ _ _ (okK_nat ha h1).1 (fun _ => rfl)
      · rw [if_neg h3]; exact fld_upd_other _ _ (toNat_ne ha hk h1 h2 h3) _

theorem bwd_joinA (ns : List NodeM) (p : Nat) (a b k : Int) (q : Nat) : bwd (joinA ns p a b) q k = bwd ns q k := by
  unfold joinA bwd
  split <;> split <;> exact fld_upd_keep _ _ _ _ _ (fun _ => rfl)

theorem bwd_joinB {ns : List NodeM} {p : Nat} {a b : Int} (hp : p < ns.length) (hb : okK ns b) {k : Int} (hk : okK ns k) : bwd (joinB ns p a b) p k = if k = b then a else bwd ns p k := by
  unfold joinB bwd
  by_cases h1 : b = -1
  · rw [if_pos h1]
    by_cases h2 : k = -1
    · rw [if_pos h2, if_pos (by rw [h1, h2])]; exact fld_upd_same _ _ _ _ _ hp (fun _ => rfl)
    · rw [if_neg h2, if_neg (by rw [h1]; exact h2), if_neg h2]; exact fld_upd_keep _ _ _ _ _ (fun _ => rfl)
  · rw [if_neg h1]
    by_cases h2 : k = -1
    · rw [if_pos h2, if_neg (by rw [h2]; exact fun e => h1 e.symm), if_pos h2]; exact fld_upd_keep _ _ _ _ _ (fun _ => rfl)
    · rw [if_neg h2, if_neg h2]
      by_cases h3 : k = b
      · rw [if_pos h3, h3]; exact fld_upd_same _ _ _ _ _ (okK_nat hb h1).1 (fun _ => rfl)
      · rw [if_neg h3]; exact fld_upd_other _ _ (toNat_ne hb hk h1 h2 h3) _

theorem fwd_joinB (ns : List NodeM) (p : Nat) (a b k : Int) (q : Nat) : fwd (joinB ns p a b) q k = fwd ns q k := by
  unfold joinB fwd
  split <;> split <;> exact fld_upd_keep _ _ _ _ _ (fun _ => rfl)

theorem fwd_join {ns : List NodeM} {p : Nat} {a b : Int} (hp : p < ns.length) (ha : okK ns a) {k : Int} (hk : okK ns k) : fwd (joinM ns p a b) p k = if k = a then b else fwd ns p k := by
  rw [joinM, fwd_joinB, fwd_joinA hp ha hk]
theorem bwd_join {ns : List NodeM} {p : Nat} {a b : Int} (hp : p < ns.length) (hb : okK ns b) {k : Int} (hk : okK ns k) : bwd (joinM ns p a b) p k = if k = b then a else bwd ns p k := by
  rw [joinM, bwd_joinB (by rw [joinA_len]; exact hp) (okK_len (joinA_len _ _ _ _) hb) (okK_len (joinA_len _ _ _ _) hk), bwd_joinA]

/-- A list whose neighbours are told by R. -/
def Ch (R : Int → Int → Prop) : List Int → Prop
  | u :: v :: r => R u v ∧ Ch R (v :: r)
  | _ => True

theorem Ch_append {R : Int → Int → Prop} {u v : Int} {Y : List Int} : ∀ {X : List Int}, Ch R (X ++ u :: v :: Y) ↔ Ch R (X ++ [u]) ∧ R u v ∧ Ch R (v :: Y)
  | [] => by simp [Ch]
  | [x] => by simp [Ch]
  | x :: y :: X => by
    have := Ch_append (R := R) (u := u) (v := v) (Y := Y) (X := y :: X)
    simp only [List.cons_append, Ch] at this ⊢
    rw [this]; simp only [and_assoc]

theorem Ch_mono {R S : Int → Int → Prop} : ∀ {l : List Int}, Ch R l → (∀ x y, x ∈ l.dropLast → y ∈ l.tail → R x y → S x y) → Ch S l
  | [], _, _ => trivial
  | [_], _, _ => trivial
  | u :: v :: r, h, hs => ⟨hs u v (by simp) (by simp) h.1, Ch_mono h.2 fun x y hx hy hr => hs x y (by simp [hx]) (by simp; right; exact (by simpa using hy)) hr⟩

def ring (L : List Nat) : List Int := -1 :: (L.map (fun (x : Nat) => (x : Int)) ++ [-1])

def RN (ns : List NodeM) (p : Nat) (u v : Int) : Prop := fwd ns p u = v ∧ bwd ns p v = u

/-- L are the children of p, in order. -/
structure KidsOf (ns : List NodeM) (p : Nat) (L : List Nat) : Prop where
  lt : p < ns.length
  chain : Ch (RN ns p) (ring L)
  nodup : L.Nodup
  mem : ∀ c ∈ L, c < ns.length

def lastI (A : List Nat) : Int := match A.getLast? with | some x => x | none => -1
def headI : List Nat → Int
  | [] => -1
  | x :: _ => x

def ints (L : List Nat) : List Int := L.map fun (x : Nat) => (x : Int)

theorem mem_ints {L : List Nat} {x : Int} : x ∈ ints L ↔ ∃ c ∈ L, (c : Int) = x := by simp [ints]
theorem neg_not_ints {L : List Nat} : (-1 : Int) ∉ ints L := by
  intro h; obtain ⟨c, _, hc⟩ := mem_ints.1 h; omega
theorem ints_nodup {L : List Nat} (h : L.Nodup) : (ints L).Nodup := by
  unfold ints
  unfold List.Nodup at *
  rw [List.pairwise_map]
  exact h.imp (fun hne e => hne (by omega))
theorem ints_append (A B : List Nat) : ints (A ++ B) = ints A ++ ints B := by simp [ints]

/-- What stands ahead of a place, cut at its last one. -/
theorem cut_left (A : List Nat) : ∃ X, -1 :: ints A = X ++ [lastI A] := by
  rcases List.eq_nil_or_concat A with rfl | ⟨A', x, rfl⟩
  · exact ⟨[], rfl⟩
  · exact ⟨-1 :: ints A', by simp [ints, lastI]⟩
theorem cut_right (B : List Nat) : ∃ Y, ints B ++ [-1] = headI B :: Y := by
  cases B with
  | nil => exact ⟨[], rfl⟩
  | cons x B => exact ⟨ints B ++ [-1], by simp [ints, headI]⟩

theorem ring_eq (L : List Nat) : ring L = -1 :: (ints L ++ [-1]) := rfl

theorem ring_cut {A B : List Nat} {X Y : List Int} (hX : -1 :: ints A = X ++ [lastI A]) (hY : ints B ++ [-1] = headI B :: Y) : ring (A ++ B) = X ++ lastI A :: headI B :: Y := by
  rw [ring_eq, ints_append, List.append_assoc, hY, ← List.cons_append, hX]; simp

theorem ring_cut3 {A B : List Nat} {c : Nat} {X Y : List Int} (hX : -1 :: ints A = X ++ [lastI A]) (hY : ints B ++ [-1] = headI B :: Y) : ring (A ++ c :: B) = X ++ lastI A :: (c : Int) :: headI B :: Y := by
  have : ints (A ++ c :: B) ++ [-1] = ints A ++ (c : Int) :: (ints B ++ [-1]) := by simp [ints]
  rw [ring_eq, this, hY, ← List.cons_append, hX]; simp

theorem path_of_ch {ns : List NodeM} {p : Nat} : ∀ {S : List Nat} {u : Int}, (∀ c ∈ S, c < ns.length) → Ch (RN ns p) (u :: (ints S ++ [-1])) → PathOf (nextF ns) (fwd ns p u) S
  | [], u, _, h => by simpa [ints, Ch, RN, PathOf] using (show fwd ns p u = -1 from h.1.1)
  | c :: S, u, hm, h => by
    have h1 : fwd ns p u = c := h.1.1
    have hc := hm c (by simp)
    have hn : ns[c]? = some ns[c] := List.getElem?_eq_getElem hc
    have hf : fwd ns p (c : Int) = (ns[c]).next := by
      have : ¬ ((c : Int) = -1) := by omega
      simp [fwd, this, fld, hn]
    refine ⟨h1, (ns[c]).next, by simp [nextF, hn], ?_⟩
    rw [← hf]
    exact path_of_ch (fun d hd => hm d (by simp [hd])) h.2

theorem KidsOf.path {ns : List NodeM} {p : Nat} {L : List Nat} (h : KidsOf ns p L) {n : NodeM} (hn : ns[p]? = some n) : PathOf (nextF ns) n.first L := by
  have := path_of_ch (u := -1) h.mem h.chain
  simpa [fwd, fld, hn] using this

theorem lastI_mem {A : List Nat} : lastI A = -1 ∨ ∃ x ∈ A, lastI A = x := by
  rcases List.eq_nil_or_concat A with rfl | ⟨A', x, rfl⟩
  · exact .inl rfl
  · exact .inr ⟨x, by simp, by simp [lastI]⟩
theorem headI_mem {B : List Nat} : headI B = -1 ∨ ∃ x ∈ B, headI B = x := by
  cases B with
  | nil => exact .inl rfl
  | cons x B => exact .inr ⟨x, by simp, rfl⟩

theorem okK_of_mem {ns : List NodeM} {x : Int} (h : x = -1 ∨ ∃ c : Nat, x = c ∧ c < ns.length) : okK ns x := h

/-- A place among the children, all that is known of it. -/
theorem cut_facts {ns : List NodeM} {A B : List Nat} (hn : (A ++ B).Nodup) (hm : ∀ c ∈ A ++ B, c < ns.length) {X Y : List Int} (hX : -1 :: ints A = X ++ [lastI A]) (hY : ints B ++ [-1] = headI B :: Y) :
    okK ns (lastI A) ∧ okK ns (headI B) ∧ (∀ x ∈ X, okK ns x ∧ x ≠ lastI A) ∧ (∀ y ∈ Y, okK ns y ∧ y ≠ headI B) ∧
      (∀ y ∈ (X ++ [lastI A]).tail, okK ns y ∧ y ≠ headI B) ∧ (∀ x ∈ (headI B :: Y).dropLast, okK ns x ∧ x ≠ lastI A) := by
  have okA : ∀ x ∈ ints A, okK ns x := fun x hx => by obtain ⟨c, hc, rfl⟩ := mem_ints.1 hx; exact .inr ⟨c, rfl, hm c (by simp [hc])⟩
  have okB : ∀ x ∈ ints B, okK ns x := fun x hx => by obtain ⟨c, hc, rfl⟩ := mem_ints.1 hx; exact .inr ⟨c, rfl, hm c (by simp [hc])⟩
  have nA : (-1 :: ints A).Nodup := List.nodup_cons.2 ⟨neg_not_ints, ints_nodup (List.nodup_append.1 hn).1⟩
  have nB : (ints B ++ [-1]).Nodup := by
    rw [List.nodup_append]
    exact ⟨ints_nodup (List.nodup_append.1 hn).2.1, by simp, fun a ha b hb => by simp at hb; subst hb; exact fun e => neg_not_ints (e ▸ ha)⟩
  have dis : ∀ x ∈ ints A, ∀ y ∈ ints B, x ≠ y := by
    intro x hx y hy e
    obtain ⟨c, hc, rfl⟩ := mem_ints.1 hx
    obtain ⟨d, hd, e'⟩ := mem_ints.1 hy
    have : c = d := by omega
    exact (List.nodup_append.1 hn).2.2 c hc d hd this
  have lA : lastI A = -1 ∨ lastI A ∈ ints A := by
    rcases lastI_mem (A := A) with h | ⟨x, hx, h⟩
    · exact .inl h
    · exact .inr (by rw [h]; exact mem_ints.2 ⟨x, hx, rfl⟩)
  have hB : headI B = -1 ∨ headI B ∈ ints B := by
    rcases headI_mem (B := B) with h | ⟨x, hx, h⟩
    · exact .inl h
    · exact .inr (by rw [h]; exact mem_ints.2 ⟨x, hx, rfl⟩)
  have mX : ∀ x ∈ X, x = -1 ∨ x ∈ ints A := fun x hx => by
    have : x ∈ -1 :: ints A := by rw [hX]; simp [hx]
    simpa using this
  have mY : ∀ y ∈ Y, y = -1 ∨ y ∈ ints B := fun y hy => by
    have : y ∈ ints B ++ [-1] := by rw [hY]; simp [hy]
    rcases List.mem_append.1 this with h | h
    · exact .inr h
    · exact .inl (by simpa using h)
  have nX : ∀ x ∈ X, x ≠ lastI A := by
    rw [hX] at nA
    intro x hx e
    exact (List.nodup_append.1 nA).2.2 x hx (lastI A) (by simp) e
  have nY : ∀ y ∈ Y, y ≠ headI B := by
    rw [hY] at nB
    intro y hy e
    exact (List.nodup_cons.1 nB).1 (e ▸ hy)
  refine ⟨?_, ?_, fun x hx => ⟨?_, nX x hx⟩, fun y hy => ⟨?_, nY y hy⟩, ?_, ?_⟩
  · rcases lA with h | h
    · exact .inl h
    · exact okA _ h
  · rcases hB with h | h
    · exact .inl h
    · exact okB _ h
  · rcases mX x hx with h | h
    · exact .inl h
    · exact okA _ h
  · rcases mY y hy with h | h
    · exact .inl h
    · exact okB _ h
  · intro y hy
    rw [← hX] at hy
    have hy' : y ∈ ints A := by simpa using hy
    refine ⟨okA _ hy', fun e => ?_⟩
    rcases hB with h | h
    · rw [h] at e; exact neg_not_ints (e ▸ hy')
    · exact dis y hy' _ h e
  · intro x hx
    rw [← hY, List.dropLast_concat] at hx
    refine ⟨okB _ hx, fun e => ?_⟩
    rcases lA with h | h
    · rw [h] at e; exact neg_not_ints (e ▸ hx)
    · exact dis _ h x hx e.symm

theorem fwd_parent (ns : List NodeM) (c p q : Nat) (k : Int) : fwd (upd ns c (setParent p)) q k = fwd ns q k := by
  unfold fwd; split <;> exact fld_upd_keep _ _ _ _ _ (fun _ => rfl)
theorem bwd_parent (ns : List NodeM) (c p q : Nat) (k : Int) : bwd (upd ns c (setParent p)) q k = bwd ns q k := by
  unfold bwd; split <;> exact fld_upd_keep _ _ _ _ _ (fun _ => rfl)

theorem linkM_len (ns : List NodeM) (p c : Nat) (b a : Int) : (linkM ns p c b a).length = ns.length := by rw [linkM, joinM_len, joinM_len, upd_len]

theorem fwd_link {ns : List NodeM} {p c : Nat} {a b : Int} (hp : p < ns.length) (hc : c < ns.length) (ha : okK ns a) {k : Int} (hk : okK ns k) :
    fwd (linkM ns p c b a) p k = if k = c then b else if k = a then (c : Int) else fwd ns p k := by
  have e1 : ∀ {x : Int}, okK ns x → okK (upd ns c (setParent p)) x := fun h => okK_len (upd_len _ _ _) h
  have e2 : ∀ {x : Int}, okK ns x → okK (joinM (upd ns c (setParent p)) p a c) x := fun h => okK_len (by rw [joinM_len, upd_len]) h
  rw [linkM, fwd_join (by rw [joinM_len, upd_len]; exact hp) (e2 (.inr ⟨c, rfl, hc⟩)) (e2 hk), fwd_join (by rw [upd_len]; exact hp) (e1 ha) (e1 hk), fwd_parent]
theorem bwd_link {ns : List NodeM} {p c : Nat} {a b : Int} (hp : p < ns.length) (hc : c < ns.length) (hb : okK ns b) {k : Int} (hk : okK ns k) :
    bwd (linkM ns p c b a) p k = if k = b then (c : Int) else if k = c then a else bwd ns p k := by
  have e1 : ∀ {x : Int}, okK ns x → okK (upd ns c (setParent p)) x := fun h => okK_len (upd_len _ _ _) h
  have e2 : ∀ {x : Int}, okK ns x → okK (joinM (upd ns c (setParent p)) p a c) x := fun h => okK_len (by rw [joinM_len, upd_len]) h
  rw [linkM, bwd_join (by rw [joinM_len, upd_len]; exact hp) (e2 hb) (e2 hk), bwd_join (by rw [upd_len]; exact hp) (e1 (.inr ⟨c, rfl, hc⟩)) (e1 hk), bwd_parent]

/-- A child put in between. -/
theorem KidsOf.insert {ns : List NodeM} {p : Nat} {A B : List Nat} (h : KidsOf ns p (A ++ B)) {c : Nat} (hc : c < ns.length) (hcn : c ∉ A ++ B) : KidsOf (linkM ns p c (headI B) (lastI A)) p (A ++ c :: B) := by
  obtain ⟨X, hX⟩ := cut_left A
  obtain ⟨Y, hY⟩ := cut_right B
  obtain ⟨ok1, ok2, fX, fY, fXt, fYd⟩ := cut_facts h.nodup h.mem hX hY
  have hch := h.chain
  rw [ring_cut hX hY, Ch_append] at hch
  obtain ⟨ch1, r, ch2⟩ := hch
  have notc : ∀ x : Int, x = -1 ∨ x ∈ ints (A ++ B) → x ≠ c := by
    intro x hx e
    rcases hx with h1 | h1
    · omega
    · obtain ⟨d, hd, e'⟩ := mem_ints.1 h1
      have : d = c := by omega
      exact hcn (this ▸ hd)
  have ca : lastI A ≠ (c : Int) := by
    apply notc
    rcases lastI_mem (A := A) with h1 | ⟨x, hx, h1⟩
    · exact .inl h1
    · exact .inr (by rw [h1]; exact mem_ints.2 ⟨x, by simp [hx], rfl⟩)
  have cb : headI B ≠ (c : Int) := by
    apply notc
    rcases headI_mem (B := B) with h1 | ⟨x, hx, h1⟩
    · exact .inl h1
    · exact .inr (by rw [h1]; exact mem_ints.2 ⟨x, by simp [hx], rfl⟩)
  have cX : ∀ x ∈ X ++ [lastI A], x ≠ (c : Int) := by
    intro x hx
    rw [← hX] at hx
    apply notc
    rcases List.mem_cons.1 hx with h1 | h1
    · exact .inl h1
    · exact .inr (by rw [ints_append]; simp [h1])
  have cY : ∀ y ∈ headI B :: Y, y ≠ (c : Int) := by
    intro y hy
    rw [← hY] at hy
    apply notc
    rcases List.mem_append.1 hy with h1 | h1
    · exact .inr (by rw [ints_append]; simp [h1])
    · exact .inl (by simpa using h1)
  refine ⟨by rw [linkM_len]; exact h.lt, ?_, ?_, ?_⟩
  · rw [ring_cut3 hX hY, Ch_append]
    refine ⟨Ch_mono ch1 ?_, ⟨?_, ?_⟩, ⟨?_, ?_⟩, Ch_mono ch2 ?_⟩
    · intro x y hx hy hr
      rw [List.dropLast_concat] at hx
      have h1 := fX x hx
      have h2 := fXt y hy
      refine ⟨?_, ?_⟩
      · rw [fwd_link h.lt hc ok1 h1.1, if_neg (cX x (by simp [hx])), if_neg h1.2]; exact hr.1
      · rw [bwd_link h.lt hc ok2 h2.1, if_neg h2.2, if_neg (cX y (List.mem_of_mem_tail hy))]; exact hr.2
    · rw [fwd_link h.lt hc ok1 ok1, if_neg ca, if_pos rfl]
    · rw [bwd_link h.lt hc ok2 (.inr ⟨c, rfl, hc⟩), if_neg (fun e => cb e.symm), if_pos rfl]
    · rw [fwd_link h.lt hc ok1 (.inr ⟨c, rfl, hc⟩), if_pos rfl]
    · rw [bwd_link h.lt hc ok2 ok2, if_pos rfl]
    · intro x y hx hy hr
      have h1 := fYd x hx
      have hy' : y ∈ Y := by simpa using hy
      have h2 := fY y hy'
      refine ⟨?_, ?_⟩
      · rw [fwd_link h.lt hc ok1 h1.1, if_neg (cY x (List.dropLast_subset _ hx)), if_neg h1.2]; exact hr.1
      · rw [bwd_link h.lt hc ok2 h2.1, if_neg h2.2, if_neg (cY y (by simp [hy']))]; exact hr.2
  · have hn := h.nodup
    rw [List.nodup_append] at hn ⊢
    obtain ⟨n1, n2, n3⟩ := hn
    refine ⟨n1, List.nodup_cons.2 ⟨fun hb => hcn (by simp [hb]), n2⟩, ?_⟩
    intro x hx y hy
    rcases List.mem_cons.1 hy with rfl | hy
    · exact fun e => hcn (by simp [← e, hx])
    · exact n3 x hx y hy
  · intro d hd
    rw [linkM_len]
    rcases List.mem_append.1 hd with h1 | h1
    · exact h.mem d (by simp [h1])
    · rcases List.mem_cons.1 h1 with rfl | h1
      · exact hc
      · exact h.mem d (by simp [h1])

theorem unlinkM_len (ns : List NodeM) (c : Nat) (n : NodeM) : (unlinkM ns c n).length = ns.length := by rw [unlinkM, upd_len, upd_len, upd_len, joinM_len]

theorem fwd_upd_far (ns : List NodeM) (c p : Nat) (k : Int) (F : NodeM → NodeM) (hf : ∀ n, (F n).first = n.first) (hk : okK ns k) (hne : k ≠ c) : fwd (upd ns c F) p k = fwd ns p k := by
  unfold fwd
  split
  · exact fld_upd_keep _ _ _ _ _ hf
  · rename_i h1
    have e := (okK_nat hk h1).2
    exact fld_upd_other _ _ (fun e' => hne (by rw [← e, ← e'])) _
theorem bwd_upd_far (ns : List NodeM) (c p : Nat) (k : Int) (F : NodeM → NodeM) (hf : ∀ n, (F n).last = n.last) (hk : okK ns k) (hne : k ≠ c) : bwd (upd ns c F) p k = bwd ns p k := by
  unfold bwd
  split
  · exact fld_upd_keep _ _ _ _ _ hf
  · rename_i h1
    have e := (okK_nat hk h1).2
    exact fld_upd_other _ _ (fun e' => hne (by rw [← e, ← e'])) _

theorem fwd_unlink {ns : List NodeM} {p c : Nat} {n : NodeM} (hp : p < ns.length) (hpar : n.parent.toNat = p) (ha : okK ns n.prev) {k : Int} (hk : okK ns k) (hne : k ≠ c) :
    fwd (unlinkM ns c n) p k = if k = n.prev then n.next else fwd ns p k := by
  have e0 : okK (joinM ns n.parent.toNat n.prev n.next) k := okK_len (joinM_len _ _ _ _) hk
  have e1 : okK (upd (joinM ns n.parent.toNat n.prev n.next) c (setParent (-1))) k := okK_len (upd_len _ _ _) e0
  have e2 : okK (upd (upd (joinM ns n.parent.toNat n.prev n.next) c (setParent (-1))) c (setPrev (-1))) k := okK_len (upd_len _ _ _) e1
  rw [unlinkM, fwd_upd_far _ c p k (setNext (-1)) (fun _ => rfl) e2 hne, fwd_upd_far _ c p k (setPrev (-1)) (fun _ => rfl) e1 hne, fwd_upd_far _ c p k (setParent (-1)) (fun _ => rfl) e0 hne, hpar, fwd_join hp ha hk]
theorem bwd_unlink {ns : List NodeM} {p c : Nat} {n : NodeM} (hp : p < ns.length) (hpar : n.parent.toNat = p) (hb : okK ns n.next) {k : Int} (hk : okK ns k) (hne : k ≠ c) :
    bwd (unlinkM ns c n) p k = if k = n.next then n.prev else bwd ns p k := by
  have e0 : okK (joinM ns n.parent.toNat n.prev n.next) k := okK_len (joinM_len _ _ _ _) hk
  have e1 : okK (upd (joinM ns n.parent.toNat n.prev n.next) c (setParent (-1))) k := okK_len (upd_len _ _ _) e0
  have e2 : okK (upd (upd (joinM ns n.parent.toNat n.prev n.next) c (setParent (-1))) c (setPrev (-1))) k := okK_len (upd_len _ _ _) e1
  rw [unlinkM, bwd_upd_far _ c p k (setNext (-1)) (fun _ => rfl) e2 hne, bwd_upd_far _ c p k (setPrev (-1)) (fun _ => rfl) e1 hne, bwd_upd_far _ c p k (setParent (-1)) (fun _ => rfl) e0 hne, hpar, bwd_join hp hb hk]

/-- A child's neighbours. -/
theorem KidsOf.nbrs {ns : List NodeM} {p : Nat} {A B : List Nat} {c : Nat} (h : KidsOf ns p (A ++ c :: B)) {n : NodeM} (hn : ns[c]? = some n) : n.prev = lastI A ∧ n.next = headI B := by
  obtain ⟨X, hX⟩ := cut_left A
  obtain ⟨Y, hY⟩ := cut_right B
  have hch := h.chain
  rw [ring_cut3 hX hY, Ch_append] at hch
  obtain ⟨_, r1, r2, _⟩ := hch
  have hc : ¬ ((c : Int) = -1) := by omega
  have e1 := r1.2
  have e2 := r2.1
  simp [bwd, hc, fld, hn] at e1
  simp [fwd, hc, fld, hn] at e2
  exact ⟨e1, e2⟩

/-- A child taken out. -/
theorem KidsOf.remove {ns : List NodeM} {p : Nat} {A B : List Nat} {c : Nat} (h : KidsOf ns p (A ++ c :: B)) {n : NodeM} (hn : ns[c]? = some n) (hpar : n.parent.toNat = p) : KidsOf (unlinkM ns c n) p (A ++ B) := by
  obtain ⟨e1, e2⟩ := h.nbrs hn
  obtain ⟨X, hX⟩ := cut_left A
  obtain ⟨Y, hY⟩ := cut_right B
  have hnd := h.nodup
  have hn' : (A ++ B).Nodup := by
    rw [List.nodup_append] at hnd ⊢
    obtain ⟨n1, n2, n3⟩ := hnd
    exact ⟨n1, (List.nodup_cons.1 n2).2, fun x hx y hy => n3 x hx y (by simp [hy])⟩
  have hcn : c ∉ A ++ B := by
    rw [List.nodup_append] at hnd
    obtain ⟨n1, n2, n3⟩ := hnd
    intro hc
    rcases List.mem_append.1 hc with h1 | h1
    · exact n3 c h1 c (by simp) rfl
    · exact (List.nodup_cons.1 n2).1 h1
  have hm' : ∀ d ∈ A ++ B, d < ns.length := fun d hd => h.mem d (by rcases List.mem_append.1 hd with h1 | h1 <;> simp [h1])
  obtain ⟨ok1, ok2, fX, fY, fXt, fYd⟩ := cut_facts hn' hm' hX hY
  have hch := h.chain
  rw [ring_cut3 hX hY, Ch_append] at hch
  obtain ⟨ch1, _, _, ch2⟩ := hch
  have notc : ∀ x : Int, x = -1 ∨ x ∈ ints (A ++ B) → x ≠ c := by
    intro x hx e
    rcases hx with h1 | h1
    · omega
    · obtain ⟨d, hd, e'⟩ := mem_ints.1 h1
      have : d = c := by omega
      exact hcn (this ▸ hd)
  have cX : ∀ x ∈ X ++ [lastI A], x ≠ (c : Int) := by
    intro x hx
    rw [← hX] at hx
    apply notc
    rcases List.mem_cons.1 hx with h1 | h1
    · exact .inl h1
    · exact .inr (by rw [ints_append]; simp [h1])
  have cY : ∀ y ∈ headI B :: Y, y ≠ (c : Int) := by
    intro y hy
    rw [← hY] at hy
    apply notc
    rcases List.mem_append.1 hy with h1 | h1
    · exact .inr (by rw [ints_append]; simp [h1])
    · exact .inl (by simpa using h1)
  rw [← e1] at ok1
  rw [← e2] at ok2
  refine ⟨by rw [unlinkM_len]; exact h.lt, ?_, hn', fun d hd => by rw [unlinkM_len]; exact hm' d hd⟩
  rw [ring_cut hX hY, Ch_append]
  refine ⟨Ch_mono ch1 ?_, ⟨?_, ?_⟩, Ch_mono ch2 ?_⟩
  · intro x y hx hy hr
    rw [List.dropLast_concat] at hx
    have h1 := fX x hx
    have h2 := fXt y hy
    refine ⟨?_, ?_⟩
    · rw [fwd_unlink h.lt hpar ok1 h1.1 (cX x (by simp [hx])), if_neg (by rw [e1]; exact h1.2)]; exact hr.1
    · rw [bwd_unlink h.lt hpar ok2 h2.1 (cX y (List.mem_of_mem_tail hy)), if_neg (by rw [e2]; exact h2.2)]; exact hr.2
  · rw [fwd_unlink h.lt hpar ok1 (by rw [← e1]; exact ok1) (cX _ (by simp)), if_pos e1.symm, e2]
  · rw [bwd_unlink h.lt hpar ok2 (by rw [← e2]; exact ok2) (cY _ (by simp)), if_pos e2.symm, e1]
  · intro x y hx hy hr
    have h1 := fYd x hx
    have hy' : y ∈ Y := by simpa using hy
    have h2 := fY y hy'
    refine ⟨?_, ?_⟩
    · rw [fwd_unlink h.lt hpar ok1 h1.1 (cY x (List.dropLast_subset _ hx)), if_neg (by rw [e1]; exact h1.2)]; exact hr.1
    · rw [bwd_unlink h.lt hpar ok2 h2.1 (cY y (by simp [hy'])), if_neg (by rw [e2]; exact h2.2)]; exact hr.2

/-- New nodes behind the others leave the children as they are. -/
theorem fld_app (f : NodeM → Int) (ns ms : List NodeM) {i : Nat} (h : i < ns.length) : fld f (ns ++ ms) i = fld f ns i := by rw [fld, List.getElem?_append_left h]; rfl
theorem KidsOf.more {ns : List NodeM} {p : Nat} {L : List Nat} (h : KidsOf ns p L) (ms : List NodeM) : KidsOf (ns ++ ms) p L := by
  refine ⟨by have := h.lt; simp; omega, ?_, h.nodup, fun c hc => by have := h.mem c hc; simp; omega⟩
  refine Ch_mono h.chain (fun x y hx hy hr => ?_)
  have mem : ∀ z : Int, z ∈ ring L → okK ns z := by
    intro z hz
    rw [ring_eq] at hz
    rcases List.mem_cons.1 hz with h1 | h1
    · exact .inl h1
    · rcases List.mem_append.1 h1 with h1 | h1
      · obtain ⟨c, hc, rfl⟩ := mem_ints.1 h1; exact .inr ⟨c, rfl, h.mem c hc⟩
      · exact .inl (by simpa using h1)
  have ox := mem x (List.dropLast_subset _ hx)
  have oy := mem y (List.mem_of_mem_tail hy)
  refine ⟨?_, ?_⟩
  · rw [← hr.1]
    unfold fwd
    split
    · exact fld_app _ _ _ h.lt
    · rename_i h1; exact fld_app _ _ _ (okK_nat ox h1).1
  · rw [← hr.2]
    unfold bwd
    split
    · exact fld_app _ _ _ h.lt
    · rename_i h1; exact fld_app _ _ _ (okK_nat oy h1).1
end Go.Proofs.Ytlbkoafeedlfaaa
