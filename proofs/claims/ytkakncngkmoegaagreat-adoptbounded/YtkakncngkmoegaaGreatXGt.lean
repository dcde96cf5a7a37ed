import Derived.Test.YtkakncngkmoegaaGreatXGr
/-
  What the agency calls: the stack's, the list's, the arena's and place's calls, with all beside them.
-/
namespace Go.Proofs.YtkakncngkmoegaaGreat
open Go.RowKit Go.Sort

theorem owns_low {w : World} {b b' : Nat} {t : TypeId} {z : Nat} {v : Value} {n : Nat} {row : List Value} (h : w.ownsRow b t z v n row) (hb : b' ≤ b) : w.ownsRow b' t z v n row := by
  rcases h with ⟨h1, ⟨e, h0⟩ | ⟨g, cap, cur, e, lo, h2⟩⟩
  · exact ⟨h1, .inl ⟨e, h0⟩⟩
  · exact ⟨h1, .inr ⟨g, cap, cur, e, Nat.le_trans hb lo, h2⟩⟩
/-- A row of numbers in a block of its own. -/
def numOb (base : Nat) (v : Value) (l : List Nat) : Ob base := ⟨fun w F => w.ownsRow base 3 1 v l.length (intsV l) ∧ ∀ k, F k ↔ v.ownBlock = some k, fun _ _ k h hk => h.1.lt k ((h.2 k).1 hk), fun _ _ _ _ h hm hG => ⟨ownsRow_kept h.1 (fun k hk => hm.block k (h.1.lt k hk).2 (hG k ((h.2 k).2 hk))), h.2⟩⟩
theorem Env.nums {w wx : World} {obs : List (Ob w.heap.size)} (h : Env w wx obs) {i : Nat} {v : Value} {l : List Nat} (hi : obs[i]? = some (numOb _ v l)) : wx.ownsRow w.heap.size 3 1 v l.length (intsV l) := by
  obtain ⟨F, ho, _⟩ := h.upd hi
  exact ho.1

theorem keysO_unlink_ae (os : List OneM) (c : Int) : keysO (unlinkR os c) = keysO os := by
  unfold unlinkR
  split
  · unfold keysO
    refine List.ext_getElem? fun i => ?_
    rw [List.getElem?_map, List.getElem?_map, unlinkO_get]
    cases os[i]? <;> rfl
  · rfl
theorem keysO_putP_more (s : St) (p q id : Int) : ∃ t, keysO (putP s p q id).os = keysO s.os ++ t := ⟨[], by unfold putP spotR; simp only [List.append_nil]; rw [keysO_link, keysO_unlink_ae]⟩
theorem keysO_elemA_more (os : List OneM) (sp : Int) (nm : ByteArray) (l : List AttrM) : ∃ t, keysO (elemO os sp nm l).1 = keysO os ++ t := by
  unfold elemO addO keysO
  split
  · exact ⟨[], by simp⟩
  · split
    · exact ⟨[], by simp⟩
    · split
      · split
        · exact ⟨_, List.map_append⟩
        · exact ⟨[], by simp⟩
      · split
        · exact ⟨_, List.map_append⟩
        · exact ⟨[], by simp⟩

section
variable {w wx : World} {P : Pt} {s : St} {c : Ct} {rest : List (Ob w.heap.size)} {n : Nat}
theorem AE.as (h : AE w wx P s c rest) : ∃ FA F, ArK wx w.heap.size P.bA (keysO s.os) FA ∧ StkS wx w.heap.size P.bK P.bA (elOf (keysO s.os)) s.L F ∧ ∀ w2 L2, UpdS F wx w2 w.heap.size P.bK P.bA (elOf (keysO s.os)) L2 → AE w w2 P ⟨s.os, L2, s.es, s.mark⟩ c rest := Env.as (i := 0) (j := 1) h rfl rfl (by decide)
theorem AE.as3 (h : AE w wx P s c rest) : ∃ FA F, ArK wx w.heap.size P.bA (keysO s.os) FA ∧ StkS wx w.heap.size P.bK P.bA (elOf (keysO s.os)) s.L F ∧ (∀ k, FA k → ¬ F k) ∧ ∀ w2 L2, UpdS F wx w2 w.heap.size P.bK P.bA (elOf (keysO s.os)) L2 → AE w w2 P ⟨s.os, L2, s.es, s.mark⟩ c rest := Env.as3 (i := 0) (j := 1) h rfl rfl (by decide)
theorem AE.live (h : AE w wx P s c rest) : Live wx w.heap.size P.bK P.bA (keysO s.os) s.L := by
  obtain ⟨FA, F, h1, h2, _⟩ := h.as
  exact Live.mk' h1 h2
theorem AE.few (h : AE w wx P s c rest) (hi : Inv s n) : s.L.length ≤ 32768 := h.live.few hi.good
theorem ae_sfind (h : AE w wx P s c rest) (hi : Inv s n) (x : Int) : Calls Tryz.prog 89 #[.pointer (some ⟨P.bK, 0, none⟩), .int .i64 x] wx fun e w' => e = .returned (.int .i64 (findM s.L x)) ∧ wx = w' := by
  obtain ⟨FA, F, h1, h2, _⟩ := h.as
  exact sfind_any h2 (by have := h.few hi; omega) hi.good.nodup x
theorem ae_slen (h : AE w wx P s c rest) : Calls Tryz.prog 13 #[.pointer (some ⟨P.bK, 0, none⟩)] wx fun e w' => e = .returned (.int .i64 s.L.length) ∧ wx = w' := by
  obtain ⟨FA, F, h1, h2, _⟩ := h.as
  exact slen_any h2
theorem ae_sat (h : AE w wx P s c rest) (i : Int) : Calls Tryz.prog 15 #[.pointer (some ⟨P.bK, 0, none⟩), .int .i64 i] wx fun e w' => e = .returned (.int .i64 (atM s.L i)) ∧ wx = w' := by
  obtain ⟨FA, F, h1, h2, _⟩ := h.as
  exact sat_any h2 i
theorem ae_stop (h : AE w wx P s c rest) (hi : Inv s n) : Calls Tryz.prog 83 #[.pointer (some ⟨P.bK, 0, none⟩)] wx fun e w' => e = .returned (.int .i64 (topM s.L)) ∧ wx = w' := by
  obtain ⟨FA, F, h1, h2, _⟩ := h.as
  exact stop_any h2 (by have := h.few hi; omega)
theorem ae_spop (h : AE w wx P s c rest) (hi : Inv s n) : Calls Tryz.prog 38 #[.pointer (some ⟨P.bK, 0, none⟩)] wx fun e w' => e = .returned (.int .i64 (topM s.L)) ∧ AE w w' P ⟨s.os, popL s.L, s.es, s.mark⟩ c rest := by
  obtain ⟨FA, F, h1, h2, h3⟩ := h.as
  exact (spop_any h2 hi.good (h.few hi)).mono fun _ _ ⟨a, b⟩ => ⟨a, h3 _ _ b⟩
theorem ae_sremove (h : AE w wx P s c rest) (hi : Inv s n) (id : Int) : Calls Tryz.prog 81 #[.pointer (some ⟨P.bK, 0, none⟩), .int .i64 id] wx fun e w' => e = .returned (.int .i64 (removeE s.L id)) ∧ AE w w' P (leaveP s id) c rest := by
  obtain ⟨FA, F, h1, h2, h3⟩ := h.as
  exact (sremove_any h2 hi.good (h.few hi) id).mono fun _ _ ⟨a, b⟩ => ⟨a, h3 _ _ b⟩
theorem ae_sput (h : AE w wx P s c rest) (hi : Inv s n) (i id : Int) : Calls Tryz.prog 189 #[.pointer (some ⟨P.bK, 0, none⟩), .int .i64 i, .int .i64 id] wx fun e w' => e = .returned (.int .i64 (putE (keysO s.os) s.L i id)) ∧ AE w w' P (standP s i id) c rest := by
  obtain ⟨FA, F, h1, h2, h3⟩ := h.as
  exact (sput_any h1 h2 hi.good i id).mono fun _ _ ⟨a, b⟩ => ⟨a, h3 _ _ b⟩
theorem ae_sswap (h : AE w wx P s c rest) (hi : Inv s n) (old id : Int) : Calls Tryz.prog 192 #[.pointer (some ⟨P.bK, 0, none⟩), .int .i64 old, .int .i64 id] wx fun e w' => e = .returned (.int .i64 (swapE (keysO s.os) s.L old id)) ∧ AE w w' P ⟨s.os, swapL (keysO s.os) s.L old id, s.es, s.mark⟩ c rest := by
  obtain ⟨FA, F, h1, h2, h3⟩ := h.as
  exact (sswap_any h1 h2 hi.good old id).mono fun _ _ ⟨a, b⟩ => ⟨a, h3 _ _ b⟩
theorem ae_nodeScope (h : AE w wx P s c rest) (hi : Inv s n) (id kind : Int) : Calls Tryz.prog 91 #[.pointer (some ⟨P.bK, 0, none⟩), .int .i64 id, .int .i64 kind] wx fun e w' => e = .returned (.bool (nodeScopeM (keysO s.os) s.L id kind)) ∧ AE w w' P s c rest := by
  obtain ⟨FA, F, h1, h2, h3, h4⟩ := h.as3
  exact (nodeScope_any h1 h2 h3 hi.good id kind).mono fun _ _ ⟨a, b⟩ => ⟨a, h4 _ _ b⟩
theorem ae_special (h : AE w wx P s c rest) (id : Int) : Calls Tryz.prog 129 #[.pointer (some ⟨P.bK, 0, none⟩), .int .i64 id] wx fun e w' => e = .returned (.bool (specM (keysO s.os) id)) ∧ AE w w' P s c rest := by
  obtain ⟨FA, F, h1, h2, h3⟩ := h.as
  exact (sspecial_any h1 h2 id).mono fun _ _ ⟨a, b⟩ => ⟨a, h3 _ _ b⟩
theorem Inv.lt12 (hi : Inv s n) : s.es.length < 1000000000000 := by have := hi.less; omega
theorem ae_lfind (h : AE w wx P s c rest) (hi : Inv s n) (id : Int) : Calls Tryz.prog 84 #[.pointer (some ⟨P.bL, 0, none⟩), .int .i64 id] wx fun e w' => e = .returned (.int .i64 (placeE s.es id)) ∧ AE w w' P s c rest := env_lfind (j := 2) h rfl hi.lt12 id
theorem ae_llast (h : AE w wx P s c rest) (hi : Inv s n) (nm : ByteArray) : Calls Tryz.prog 88 #[.pointer (some ⟨P.bL, 0, none⟩), .string nm] wx fun e w' => e = .returned (.int .i64 (lastE nm s.es s.es.length)) ∧ AE w w' P s c rest := env_llast (j := 2) h rfl hi.lt12 nm
theorem ae_lremove (h : AE w wx P s c rest) (hi : Inv s n) (id : Int) : Calls Tryz.prog 82 #[.pointer (some ⟨P.bL, 0, none⟩), .int .i64 id] wx fun e w' => e = .returned (.int .i64 (remA s.es id)) ∧ AE w w' P ⟨s.os, s.L, delE s.es (placeE s.es id), s.mark⟩ c rest := env_lremove (j := 2) h rfl hi.lt12 id
theorem ae_lput (h : AE w wx P s c rest) (hi : Inv s n) (i id : Int) (t : TokM) (a : Option Addr) (cap : Nat) (ht : AttrsIn wx a t.attrs) (hn : t.attrs.length ≤ 2513169434916) :
    Calls Tryz.prog 126 #[.pointer (some ⟨P.bL, 0, none⟩), .int .i64 i, .int .i64 id, .agg (t.cells (.slice a t.attrs.length cap)).toArray] wx fun e w' => e = .returned (.int .i64 (putA (keysO s.os) s.es i id)) ∧ AE w w' P ⟨s.os, s.L, putEAc (keysO s.os) s.es i id t, s.mark⟩ c rest := alput_any (i := 0) (j := 2) h rfl rfl hi.lt12 i id t a cap ht hn
theorem ae_lswap (h : AE w wx P s c rest) (hi : Inv s n) (old id : Int) : Calls Tryz.prog 190 #[.pointer (some ⟨P.bL, 0, none⟩), .int .i64 old, .int .i64 id] wx fun e w' => e = .returned (.int .i64 (swapA (keysO s.os) s.es old id)) ∧ AE w w' P ⟨s.os, s.L, swapEAc (keysO s.os) s.es old id, s.mark⟩ c rest := alswap_any (i := 0) (j := 2) h rfl rfl hi.lt12 old id
theorem ae_lat (h : AE w wx P s c rest) (i : Nat) {x : EntM} (hx : s.es[i]? = some x) : Calls Tryz.prog 17 #[.pointer (some ⟨P.bL, 0, none⟩), .int .i64 i] wx fun e w' => ∃ ao ac, e = .returned (.tuple #[entV x (.slice ao x.tok.attrs.length ac), .int .i64 0]) ∧ AtrS w' wx.heap.size ao x.tok.attrs ∧ AE w w' P s c rest := env_lat (j := 2) h rfl i hx
theorem ae_alen (h : AE w wx P s c rest) : Calls Tryz.prog 12 #[.pointer (some ⟨P.bA, 0, none⟩)] wx fun e w' => e = .returned (.int .i64 s.os.length) ∧ wx = w' := alen_any (i := 0) h rfl
theorem ae_elem (h : AE w wx P s c rest) (nm : ByteArray) (a : Option Addr) (cap : Nat) (l : List AttrM) (hl : AttrsIn wx a l) (hn : l.length ≤ maxLen) : Calls Tryz.prog 18 #[.pointer (some ⟨P.bA, 0, none⟩), .int .i64 0, .string nm, .slice a l.length cap] wx fun e w' => e = .returned (.tuple #[.int .i64 (elemO s.os 0 nm l).2.1, .int .i64 (elemO s.os 0 nm l).2.2]) ∧ AE w w' P ⟨(elemO s.os 0 nm l).1, s.L, s.es, s.mark⟩ c rest := by
  obtain ⟨ns, F, h1, hs, h2⟩ := Env.a (i := 0) h rfl
  exact (element_sim h1 hs 0 nm a cap l hl hn).mono fun _ _ ⟨a, b⟩ => ⟨a, Env.stay (j := 1) (h2 _ _ b) rfl (keysO_elemA_more s.os 0 nm l)⟩
theorem ae_node_in (h : AE w wx P s c rest) {k : Nat} {o : OneM} (ho : s.os[k]? = some o) : Calls Tryz.prog 14 #[.pointer (some ⟨P.bA, 0, none⟩), .int .i64 k] wx fun e w' => ∃ (n : NodeM) (ao : Option Addr) (m c1 : Nat), e = .returned (.tuple #[nodeV n (.slice ao m c1), .int .i64 0]) ∧ NodeIs o n ∧ AE w w' P s c rest := by
  refine (anode_in (i := 0) h rfl ho).mono ?_
  rintro e w' ⟨n, ao, m, c1, e1, e2, hb⟩
  exact ⟨n, ao, m, c1, e1, e2, h.more hb⟩
theorem ae_node_no (h : AE w wx P s c rest) {k : Int} (hk : hasO s.os k = false) : Calls Tryz.prog 14 #[.pointer (some ⟨P.bA, 0, none⟩), .int .i64 k] wx fun e w' => e = .returned (.tuple #[nodeZ, .int .i64 6]) ∧ AE w w' P s c rest :=
  (anode_no (i := 0) h rfl hk).mono fun _ _ ⟨a, b⟩ => ⟨a, h.more b⟩
theorem ae_put (h : AE w wx P s c rest) (p q id : Int) (hp : hasO s.os p = true) (hid : hasO s.os id = true) (hq : q = -1 ∨ hasO s.os q = true) : Calls Tryz.prog 168 #[.pointer (some ⟨P.bA, 0, none⟩), spotV p q, .int .i64 id] wx fun e w' => (∃ r, e = .returned (.int .i64 r)) ∧ AE w w' P (putP s p q id) c rest := (pput_any (i := 0) h rfl p q id hp hid hq).mono fun _ _ ⟨a, b⟩ => ⟨a, Env.stay (j := 1) b rfl (keysO_putP_more s p q id)⟩
theorem ae_kids (h : AE w wx P s c rest) (k : Int) : Calls Tryz.prog 171 #[.pointer (some ⟨P.bA, 0, none⟩), .int .i64 k] wx fun e w' => ∃ v, e = .returned v ∧ AE w w' P s c (rest ++ [numOb _ v (kidsO s.os k)]) := by
  obtain ⟨ns, F, h1, hs, h2⟩ := Env.a (i := 0) h rfl
  refine (kids_sim h1 hs k).mono ?_
  rintro e w' ⟨v, rfl, ho, hb⟩
  exact ⟨v, rfl, Env.add (o := numOb _ v (kidsO s.os k)) (F := fun k => v.ownBlock = some k) h hb ⟨owns_low ho h.bel.size, fun _ => Iff.rfl⟩ (fun k hk => (ho.lt k hk).1)⟩
end
end Go.Proofs.YtkakncngkmoegaaGreat
