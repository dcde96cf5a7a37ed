/-
  Package place: Spot of what is no node; Put at a node's end. Plain: what the law's world is after any acts. Acts that came in, as the walks read them.
-/
import Derived.Test.YtmllhebmaldgfaaQYe
import Derived.Test.YtmllhebmaldgfaaQEa
namespace Go.Proofs.Ytmllhebmaldgfaa
open Go.RowKit

section
variable {w wx : World} {obs : List (Ob w.heap.size)} {i j bA bR bK bW : Nat} {os : List OneM} {L : List Int}
set_option maxRecDepth 100000 in
theorem spot_none (h : Env w wx obs) (hi : obs[i]? = some (aO _ bA os)) (hj : obs[j]? = some (stOb _ bK bA (keysO os) L)) (hij : i ≠ j) (hg : Good (keysO os) L) {t : Int} (ht : hasO os t = false) (b : Bool) :
    Calls Try.prog 30 #[.pointer (some ⟨bA, 0, none⟩), .pointer (some ⟨bK, 0, none⟩), .int .i64 t, .bool b] wx fun e w' => e = .returned (.tuple #[spotV 0 0, .int .i64 6]) ∧ Env w w' obs := by
  have HE := hide h
  have HA := hide (fun W (hW : Env w W obs) => amadeA hW hi)
  have HS := hide (fun W (hW : Env w W obs) => amadeS hW hi hj hij hg)
  have HT := hide (fun W (hW : Env w W obs) ob x => athere1b hW hi ob x)
  have HY := hide ht
  clear h hi hj hg ht
  unfold spotV
  go_enter Try.func30, Try.ntmps30
  go_wp2_with (first
    | (go_at_call 82; refine ((unhide HA) _ ((unhide HE).more (below_new _ _))).mono ?_; rintro e w1 ⟨rfl, rfl⟩)
    | (go_at_call 83; refine ((unhide HS) _ ((unhide HE).more (below_new _ _))).mono ?_; rintro e w2 ⟨rfl, rfl⟩)
    | (go_at_call 84; refine ((unhide HT) _ (unhide HE) _ _).mono ?_; rintro e w3 ⟨rfl, rfl⟩; rw [unhide HY]; have HS3 := hide ((Sp.new wx 0 0).alloc (.cells #[.int .i64 t] 3)); obtain ⟨k0, k1, f0, f1⟩ := (unhide HS3).cells))
  have R := unhide HS3
  exact bodyPost_ret (spot_ret (p := 8) (u := 9) Try.results30 (b := wx.heap.size) R.box _ _ rfl rfl) rfl ⟨rfl, (unhide HE).more R.bel⟩

set_option maxRecDepth 100000 in
theorem placeThere_end (h : Env w wx obs) (hi : obs[i]? = some (aO _ bA os)) (p : Int) :
    Calls Try.prog 93 #[.pointer (some ⟨bA, 0, none⟩), spotV p (-1)] wx fun e w' => e = .returned (.bool (hasO os p)) ∧ Below wx.heap.size wx w' := by
  have HE := hide h
  have HT := hide (fun W (hW : Env w W obs) ob x => athere1b hW hi ob x)
  clear h hi
  unfold spotV
  go_enter Try.func93, Try.ntmps93
  go_wp2_with (first
    | (go_at_call 84; refine ((unhide HT) _ (unhide HE) _ _).mono ?_; rintro e w3 ⟨rfl, rfl⟩))
  go_ret
  exact ⟨rfl, (below_new _ _).alloc (by simp) _⟩

set_option maxRecDepth 100000 in
theorem asItIs_end (h : Env w wx obs) (hi : obs[i]? = some (aO _ bA os)) (p : Int) :
    Calls Try.prog 95 #[.pointer (some ⟨bA, 0, none⟩), spotV p (-1)] wx fun e w' => e = .returned (spotV p (-1)) ∧ Below wx.heap.size wx w' := by
  have HE := hide h
  have HN := hide (fun W (hW : Env w W obs) => anode_no hW hi (k := -1) (by simp [hasO]))
  have HAT := hide (fun (W : World) (x : Int) => atEnd_any W x)
  unfold nodeZ at HN
  clear h hi
  unfold spotV at HAT ⊢
  go_enter Try.func95, Try.ntmps95
  go_wp2_with (first
    | (go_at_call 18; refine ((unhide HN) _ ((unhide HE).more (two_boxes (Below.refl _ _)).2.2)).mono ?_; rintro e w4 ⟨rfl, hb4⟩; obtain ⟨b1, b2, b3⟩ := two_boxes hb4; have HB1 := hide (Sp.mk b3 (Nat.le_refl _) b1); have HB2 := hide (show Sp wx w4 (wx.heap.size + 1) 0 0 from ⟨b3, Nat.le_succ _, b2⟩); clear hb4 b1 b2 b3; obtain ⟨l0, l1, m0, m1⟩ := (unhide HB1).cells; obtain ⟨z0, z1, z2, z3⟩ := ((unhide HB1).alloc (.cells #[.int .i64 0, .int .i64 0, .string ⟨#[]⟩, .slice none 0 0, .string ⟨#[]⟩, .string ⟨#[]⟩, .int .i64 0, .int .i64 0, .int .i64 0, .int .i64 0, .int .i64 0, .int .i64 0] 44)).cells)
    | (go_at_call 85; refine ((unhide HAT) _ _).mono ?_; rintro e w5 ⟨rfl, hb5⟩; have HS5 := hide (((unhide HB2).alloc _).more hb5); clear z0 z1 z2 z3 l0 l1 m0 m1; obtain ⟨k0, k1, f0, f1⟩ := (unhide HS5).cells; clear hb5))
  have R := (unhide HS5).put p (-1)
  exact bodyPost_ret (spot_ret1 (p := 4) Try.results95 (b := wx.heap.size + 1) R.box _ rfl) rfl ⟨rfl, R.bel⟩

theorem Env.poke2 (h : Env w wx obs) {K : Nat} {p q : Int} (hi : obs[i]? = some (blkOb _ K #[.int .i64 p, .int .i64 q] 60)) (x y : Int) :
    Env w ((wx.setCell ⟨K, 0, none⟩ (.int .i64 x)).setCell ⟨K, 1, none⟩ (.int .i64 y)) (obs.set i (blkOb _ K #[.int .i64 x, .int .i64 y] 60)) := by
  obtain ⟨F, ⟨hb, hblk, hF⟩, _, hk⟩ := h.upd hi
  exact hk _ (blkOb _ K _ _) F ⟨hb, two_block _ _ _ _ _ _ _ hblk, hF⟩ ((Mod.setCell (F := F) wx ⟨K, 0, none⟩ _ ((hF K).2 rfl)).trans (Mod.setCell _ ⟨K, 1, none⟩ _ ((hF K).2 rfl))) (fun k hk => .inl hk)

theorem put_take (obs : List (Ob w.heap.size)) (b : Ob w.heap.size) (hlt : i < obs.length) (x y : Ob w.heap.size) (z : Ob w.heap.size) : ((((obs ++ [b]).set i x).set obs.length z).set i y).take obs.length = obs.set i y := by
  refine List.ext_getElem? fun k => ?_
  rw [List.getElem?_take]
  by_cases hk : k < obs.length
  · rw [if_pos hk]
    simp only [List.getElem?_set, List.length_set, List.length_append, List.length_cons, List.length_nil]
    by_cases hik : i = k
    · subst hik
      simp [hlt, Nat.lt_succ_of_lt hlt]
    · rw [if_neg hik, if_neg (by omega), if_neg hik, if_neg hik, List.getElem?_append_left hk]
  · rw [if_neg hk]
    have : (obs.set i y)[k]? = none := by rw [List.getElem?_eq_none_iff]; simp; omega
    rw [this]

/-- What Put at a node's end answers. -/
def endE (os : List OneM) (p id : Int) : Int := if linkE (unlinkR os id) p id (-1) = 0 then 0 else 11

set_option maxHeartbeats 1000000 in
set_option maxRecDepth 100000 in
theorem put_end (h : Env w wx obs) (hi : obs[i]? = some (aO _ bA os)) (p id : Int) (hp : hasO os p = true) (hid : hasO os id = true) :
    Calls Try.prog 34 #[.pointer (some ⟨bA, 0, none⟩), spotV p (-1), .int .i64 id] wx fun e w' => e = .returned (.int .i64 (endE os p id)) ∧ Env w w' (obs.set i (aO _ bA (linkR (unlinkR os id) p id (-1)))) := by
  have hlt : i < obs.length := (List.getElem?_eq_some_iff.1 hi).1
  have hB := h.boxed #[.int .i64 p, .int .i64 (-1)] 60
  have hi1 : (obs ++ [blkOb _ wx.heap.size #[.int .i64 p, .int .i64 (-1)] 60])[i]? = some (aO _ bA os) := by rw [List.getElem?_append_left hlt]; exact hi
  have hK1 : (obs ++ [blkOb _ wx.heap.size #[.int .i64 p, .int .i64 (-1)] 60])[obs.length]? = some (blkOb _ wx.heap.size #[.int .i64 p, .int .i64 (-1)] 60) := by simp
  have hfin := put_take obs (blkOb _ wx.heap.size #[.int .i64 p, .int .i64 (-1)] 60) hlt (aO _ bA (unlinkR os id)) (aO _ bA (linkR (unlinkR os id) p id (-1))) (blkOb _ wx.heap.size #[.int .i64 p, .int .i64 (-1)] 60)
  have HT := hide (athere1b h hi (.cells #[.int .i64 p, .int .i64 (-1)] 60) id)
  rw [hid] at HT
  generalize hobs1 : obs ++ [blkOb _ wx.heap.size #[.int .i64 p, .int .i64 (-1)] 60] = obs1 at *
  have hlen1 : obs1.length = obs.length + 1 := by rw [← hobs1]; simp
  have hi2 : (obs1.set i (aO _ bA (unlinkR os id)))[i]? = some (aO _ bA (unlinkR os id)) := by rw [List.getElem?_set_self (by omega)]
  have hK2 : (obs1.set i (aO _ bA (unlinkR os id)))[obs.length]? = some (blkOb _ wx.heap.size #[.int .i64 p, .int .i64 (-1)] 60) := by rw [List.getElem?_set_ne (by omega)]; exact hK1
  have hi3 : ((obs1.set i (aO _ bA (unlinkR os id))).set obs.length (blkOb _ wx.heap.size #[.int .i64 p, .int .i64 (-1)] 60))[i]? = some (aO _ bA (unlinkR os id)) := by rw [List.getElem?_set_ne (by omega)]; exact hi2
  have HB := hide hB
  have HA := hide (fun W (hW : Env w W obs1) => amadeA hW hi1)
  have HP := hide (fun W (hW : Env w W obs1) => placeThere_end hW hi1 p)
  rw [hp] at HP
  have HU := hide (fun W (hW : Env w W obs1) => aunlink_any hW hi1 id)
  have HI := hide (fun W (hW : Env w W (obs1.set i (aO _ bA (unlinkR os id)))) => asItIs_end hW hi2 p)
  have HL := hide (fun W (hW : Env w W _) => alink_any hW hi3 p id (-1))
  have HK1 := hide (fun W (hW : Env w W obs1) => Box2.cells (hW.block hK1))
  have HK2 := hide (fun W (hW : Env w W (obs1.set i (aO _ bA (unlinkR os id)))) => Box2.cells (hW.block hK2))
  have HPK := hide (fun W (hW : Env w W (obs1.set i (aO _ bA (unlinkR os id)))) => hW.poke2 hK2 p (-1))
  have HFIN := hide hfin
  unfold spotV at HP HI ⊢
  unfold endE
  generalize unlinkE os id = ue at *
  generalize linkE (unlinkR os id) p id (-1) = le at *
  clear hB hi1 hK1 hi2 hK2 hi3 hfin h hi hp hid hobs1 hlen1 hlt
  have HBX := hide (Box2.new wx p (-1)).cells
  by_cases hle : le = 0
  · subst hle
    rw [if_pos rfl]
    go_enter Try.func34, Try.ntmps34
    go_wp2_with (first
      | (go_at_call 82; refine ((unhide HA) _ (unhide HB)).mono ?_; rintro e w1 ⟨rfl, rfl⟩)
      | (go_at_call 84; refine (unhide HT).mono ?_; rintro e w2 ⟨rfl, rfl⟩)
      | (go_at_call 93; refine ((unhide HP) _ ((unhide HB).more (below_new _ _))).mono ?_; rintro e w3 ⟨rfl, hb3⟩; have HB3 := hide (((unhide HB).more (below_new _ _)).more hb3); clear hb3)
      | (go_at_call 94; refine ((unhide HU) _ (unhide HB3)).mono ?_; rintro e w4 ⟨rfl, he4⟩; have HB4 := hide he4; obtain ⟨k0, k1, f0, f1⟩ := (unhide HK2) _ he4; clear he4)
      | (go_at_call 95; refine ((unhide HI) _ (unhide HB4)).mono ?_; rintro e w5 ⟨rfl, hb5⟩; clear k0 k1 f0 f1; have HB5 := hide ((unhide HB4).more hb5); obtain ⟨k0, k1, f0, f1⟩ := (unhide HK2) _ (unhide HB5); have HB6 := hide ((unhide HPK) _ (unhide HB5)); clear hb5)
      | (go_at_call 80; refine ((unhide HL) _ (unhide HB6)).mono ?_; rintro e w7 ⟨rfl, he7⟩; have HB7 := hide he7; clear he7))
    go_ret
    have R := (unhide HB7).take obs.length
    rw [unhide HFIN] at R
    exact ⟨rfl, R⟩
  · have hle2 : (le != 0) = true := by simp [hle]
    rw [if_neg hle]
    go_enter Try.func34, Try.ntmps34
    go_wp2_with (first
      | (go_at_call 82; refine ((unhide HA) _ (unhide HB)).mono ?_; rintro e w1 ⟨rfl, rfl⟩)
      | (go_at_call 84; refine (unhide HT).mono ?_; rintro e w2 ⟨rfl, rfl⟩)
      | (go_at_call 93; refine ((unhide HP) _ ((unhide HB).more (below_new _ _))).mono ?_; rintro e w3 ⟨rfl, hb3⟩; have HB3 := hide (((unhide HB).more (below_new _ _)).more hb3); clear hb3)
      | (go_at_call 94; refine ((unhide HU) _ (unhide HB3)).mono ?_; rintro e w4 ⟨rfl, he4⟩; have HB4 := hide he4; obtain ⟨k0, k1, f0, f1⟩ := (unhide HK2) _ he4; clear he4)
      | (go_at_call 95; refine ((unhide HI) _ (unhide HB4)).mono ?_; rintro e w5 ⟨rfl, hb5⟩; clear k0 k1 f0 f1; have HB5 := hide ((unhide HB4).more hb5); obtain ⟨k0, k1, f0, f1⟩ := (unhide HK2) _ (unhide HB5); have HB6 := hide ((unhide HPK) _ (unhide HB5)); clear hb5)
      | (go_at_call 80; refine ((unhide HL) _ (unhide HB6)).mono ?_; rintro e w7 ⟨rfl, he7⟩; have HB7 := hide he7; clear he7))
    go_ret
    have R := (unhide HB7).take obs.length
    rw [unhide HFIN] at R
    exact ⟨rfl, R⟩
end
end Go.Proofs.Ytmllhebmaldgfaa

namespace Go.Proofs.Ytmllhebmaldgfaa
open Go.RowKit

/-- An act: an element of that name, below that node, put on the stack or not. -/
structure ActM where
  text : ByteArray
  up : Int
  opn : Bool
def stepW (s : List OneM × List Int) (c : ActM) : List OneM × List Int :=
  if (elemO s.1 0 c.text []).2.2 = 0 then
    (linkR (elemO s.1 0 c.text []).1 c.up (elemO s.1 0 c.text []).2.1 (-1),
      if c.opn then pushL (keysO (linkR (elemO s.1 0 c.text []).1 c.up (elemO s.1 0 c.text []).2.1 (-1))) s.2 (elemO s.1 0 c.text []).2.1 else s.2)
  else ((elemO s.1 0 c.text []).1, s.2)
def worldW (l : List ActM) : List OneM × List Int := l.foldl stepW ([oneM 0], [])
theorem worldW_next {l : List ActM} {i : Nat} {c : ActM} (h : l[i]? = some c) : worldW (l.take (i + 1)) = stepW (worldW (l.take i)) c := by
  obtain ⟨hlt, rfl⟩ := List.getElem?_eq_some_iff.1 h
  rw [List.take_succ_eq_append_getElem hlt, worldW, List.foldl_append]
  rfl

theorem enterE_ok {ks : List Key} {L : List Int} {id : Int} (h : enterE ks L id = 0) : (elOf ks id).isSome = true ∧ id ∉ L := by
  unfold enterE at h
  split at h
  · split at h
    · cases h
    · exact ⟨by assumption, by assumption⟩
  · cases h
theorem Good.pushed {ks : List Key} {L : List Int} (hg : Good ks L) (id : Int) : Good ks (pushL ks L id) := by
  unfold pushL
  split
  · rename_i h
    obtain ⟨h1, h2⟩ := enterE_ok h
    refine ⟨List.nodup_append.2 ⟨hg.nodup, by simp, fun a ha b hb e => ?_⟩, fun x hx => ?_⟩
    · simp at hb; subst hb; subst e; exact h2 ha
    · rcases List.mem_append.1 hx with h | h
      · exact hg.el x h
      · simp at h; subst h; exact h1
  · exact hg
theorem keyAt_grow {ks ms : List Key} {id : Int} {q : Key} (h : keyAt ks id = some q) : keyAt (ks ++ ms) id = some q := by
  obtain ⟨i, rfl, hi⟩ := keyAt_some h
  have := (List.getElem?_eq_some_iff.1 hi).1
  simp [keyAt, List.getElem?_append_left this, hi]
theorem elOf_grow {ks ms : List Key} {id : Int} (h : (elOf ks id).isSome = true) : (elOf (ks ++ ms) id).isSome = true := by
  cases hk : keyAt ks id with
  | none => rw [elOf_none hk] at h; cases h
  | some q =>
    rw [elOf_key hk] at h
    rw [elOf_key (keyAt_grow hk)]
    exact h
theorem Good.grow {ks ms : List Key} {L : List Int} (h : Good ks L) : Good (ks ++ ms) L := ⟨h.nodup, fun x hx => elOf_grow (h.el x hx)⟩

theorem keysO_link (os : List OneM) (p c b : Int) : keysO (linkR os p c b) = keysO os := by
  unfold linkR
  split
  · unfold keysO
    refine List.ext_getElem? fun i => ?_
    rw [List.getElem?_map, List.getElem?_map, linkO_get]
    cases os[i]? <;> rfl
  · rfl
theorem linkR_len (os : List OneM) (p c b : Int) : (linkR os p c b).length = os.length := by
  unfold linkR
  split
  · exact linkO_len _ _ _ _
  · rfl

theorem hasT_one (n : ByteArray) : hasT [tmplB] n = isT n := by
  have e : tmplB.toList = [116, 101, 109, 112, 108, 97, 116, 101] := by decide +kernel
  simp [hasT, isT, e]

/-- What a node of the world is. -/
structure OneI (o : OneM) : Prop where
  inner : o.inner ≠ -1 ↔ isOfO o [tmplB] = true
  kind : o.kind = 0 ∨ o.kind = 1 ∨ o.kind = 5
theorem OneI.same {o o' : OneM} (h : OneI o) (h1 : o'.inner = o.inner) (h2 : o'.kind = o.kind) (h3 : o'.space = o.space) (h4 : o'.name = o.name) : OneI o' := by
  refine ⟨?_, by rw [h2]; exact h.kind⟩
  have := h.inner
  unfold isOfO at this ⊢
  rw [h1, h2, h3, h4]
  exact this
theorem oneI_oneM (k : Int) (h : k = 0 ∨ k = 5) (hh : Int) : OneI { oneM k with host := hh } := by
  refine ⟨?_, by rcases h with h | h <;> simp [oneM, h]⟩
  rcases h with rfl | rfl <;> simp [oneM, isOfO]
theorem oneI_elem (nm : ByteArray) (h : isT nm = false) : OneI (elemQ 0 nm []) := by
  refine ⟨?_, by simp [elemQ, oneM]⟩
  simp [elemQ, oneM, isOfO, hasT_one, h]
theorem oneI_tmpl (nm : ByteArray) (h : isT nm = true) (n : Nat) : OneI { elemQ 0 nm [] with inner := (n : Int) + 1 } := by
  refine ⟨?_, by simp [elemQ, oneM]⟩
  simp [elemQ, oneM, isOfO, hasT_one, h]
  omega

structure WI (s : List OneM × List Int) (n : Nat) : Prop where
  good : Good (keysO s.1) s.2
  few : s.1.length ≤ 2 * n + 1
  one : ∀ o ∈ s.1, OneI o

theorem elemO_grow (os : List OneM) (nm : ByteArray) : ∃ ms, (elemO os 0 nm []).1 = os ++ ms ∧ ms.length ≤ 2 ∧ ∀ o ∈ ms, OneI o := by
  unfold elemO
  rw [if_neg (by omega)]
  split
  · exact ⟨[], by simp, by simp, fun o ho => by cases ho⟩
  · split
    · rename_i h
      split
      · refine ⟨_, rfl, by simp, fun o ho => ?_⟩
        simp only [List.mem_cons, List.not_mem_nil, or_false] at ho
        rcases ho with rfl | rfl
        · exact oneI_tmpl nm h.2 _
        · exact oneI_oneM 5 (.inr rfl) _
      · exact ⟨[], by simp, by simp, fun o ho => by cases ho⟩
    · rename_i h
      have hT : isT nm = false := by simpa using h
      unfold addO
      split
      · refine ⟨_, rfl, by simp, fun o ho => ?_⟩
        simp only [List.mem_cons, List.not_mem_nil, or_false] at ho
        subst ho
        exact oneI_elem nm hT
      · exact ⟨[], by simp, by simp, fun o ho => by cases ho⟩

theorem oneI_link {os : List OneM} (h : ∀ o ∈ os, OneI o) (p c b : Int) : ∀ o ∈ linkR os p c b, OneI o := by
  unfold linkR
  split
  · intro o ho
    obtain ⟨i, hi⟩ := List.getElem?_of_mem ho
    rw [linkO_get] at hi
    cases h0 : os[i]? with
    | none => rw [h0] at hi; cases hi
    | some o0 =>
      rw [h0] at hi
      cases hi
      exact (h o0 (List.mem_of_getElem? h0)).same rfl rfl rfl rfl
  · exact h

theorem WI.step {s : List OneM × List Int} {n : Nat} (h : WI s n) (c : ActM) : WI (stepW s c) (n + 1) := by
  obtain ⟨ms, e, hm, ho⟩ := elemO_grow s.1 c.text
  have hg : Good (keysO (elemO s.1 0 c.text []).1) s.2 := by
    rw [e]
    unfold keysO
    rw [List.map_append]
    exact h.good.grow
  have hf : (elemO s.1 0 c.text []).1.length ≤ 2 * (n + 1) + 1 := by
    rw [e, List.length_append]
    have := h.few
    omega
  have h1 : ∀ o ∈ (elemO s.1 0 c.text []).1, OneI o := by
    rw [e]
    intro o hx
    rcases List.mem_append.1 hx with hx | hx
    · exact h.one o hx
    · exact ho o hx
  unfold stepW
  split
  · refine ⟨?_, by rw [linkR_len]; exact hf, oneI_link h1 _ _ _⟩
    simp only
    rw [keysO_link]
    split
    · exact hg.pushed _
    · exact hg
  · exact ⟨hg, hf, h1⟩
theorem WI.start : WI ([oneM 0], []) 0 := by
  refine ⟨Good.nil _, by simp, fun o ho => ?_⟩
  simp only [List.mem_cons, List.not_mem_nil, or_false] at ho
  subst ho
  exact oneI_oneM 0 (.inl rfl) _
theorem WI.all (l : List ActM) : ∀ n, n ≤ l.length → WI (worldW (l.take n)) n := by
  intro n
  induction n with
  | zero => intro _; rw [List.take_zero]; exact WI.start
  | succ n ih =>
    intro hn
    obtain ⟨c, hc⟩ : ∃ c, l[n]? = some c := ⟨_, List.getElem?_eq_getElem (by omega)⟩
    rw [worldW_next hc]
    exact (ih (by omega)).step c
end Go.Proofs.Ytmllhebmaldgfaa

namespace Go.Proofs.Ytmllhebmaldgfaa
open Go.ChangeShapes Go.WideShapes Go.ChangeAt Go.RowKit

structure ActsIn (w : World) (a : Option Addr) (l : List ActM) : Prop where
  cells : ∀ (i : Nat) x, l[i]? = some x → ∃ b off, a = some ⟨b, off, none⟩ ∧ w.cell? ⟨b, off + i * 3, none⟩ = some (.string x.text) ∧ w.cell? ⟨b, off + i * 3 + 1, none⟩ = some (.int .i64 x.up) ∧ w.cell? ⟨b, off + i * 3 + 2, none⟩ = some (.bool x.opn)
theorem ActsIn.below {w w' : World} {a : Option Addr} {l : List ActM} (h : ActsIn w a l) (hb : Below w.heap.size w w') : ActsIn w' a l := by
  refine ⟨fun i x hi => ?_⟩
  obtain ⟨b, off, e, c0, c1, c2⟩ := h.cells i x hi
  have hlt : b < w.heap.size := World.block_lt_of_cell? w _ c0
  exact ⟨b, off, e, (hb.cell (p := ⟨b, off + i * 3, none⟩) hlt).trans c0, (hb.cell (p := ⟨b, off + i * 3 + 1, none⟩) hlt).trans c1, (hb.cell (p := ⟨b, off + i * 3 + 2, none⟩) hlt).trans c2⟩

theorem list3 {α : Type} (l : List α) (h : l.length = 3) : ∃ a b c, l = [a, b, c] := by
  match l, h with
  | [a, b, c], _ => exact ⟨a, b, c, rfl⟩

section
variable {H : Type} {enc : TypeId × Value → H} {W : World} {spare : Nat → Bool} {held : Bool}

theorem act_cells {fuel : Nat} {cs : List Value} {x : DataW H × List MemPlace} (h : DataW.trod enc Try.prog W 0 spare held fuel 115 cs = some x) : ∃ z : ActM, cs = [.string z.text, .int .i64 z.up, .bool z.opn] := by
  have hcn : Try.prog.cellsOf 115 = 3 := by kernel_rfl
  have hc3 : Try.prog.cellsOf 3 = 1 := by kernel_rfl
  have hc9 : Try.prog.cellsOf 9 = 1 := by kernel_rfl
  have hc4 : Try.prog.cellsOf 4 = 1 := by kernel_rfl
  obtain ⟨xs, k, _, rfl, hl, hxl, hfs⟩ := DataW.trod_struct Try.underlying115 h
  rw [hcn] at hl
  obtain ⟨e0, e1, e2, rfl⟩ := list3 cs hl
  have f0 := hfs 0 _ rfl
  have f1 := hfs 1 _ rfl
  have f2 := hfs 2 _ rfl
  have hx : xs.length = 3 := by simpa using hxl
  obtain ⟨y0, y1, y2, rfl⟩ := list3 xs hx
  simp [hc3, hc9, hc4] at f0 f1 f2
  obtain ⟨z0, g0, _, _⟩ := DataW.trod_string Try.underlying9 f0
  obtain ⟨z1, g1, _, _⟩ := DataW.trod_int Try.underlying3 f1
  obtain ⟨z2, g2, _⟩ := DataW.trod_bool Try.underlying4 f2
  simp at g0 g1 g2
  subst g0 g1 g2
  exact ⟨⟨z0, z1, z2⟩, rfl⟩

/-- A slice of them that came in. -/
theorem acts_open {a : Option Addr} {len cap : Nat} {d : DataW H} {ps : List MemPlace} (h : DataW.Trod enc Try.prog W 0 spare held 56 (.slice a len cap) d ps) (hw : (d.weights Try.prog 56).all (· ≤ reachBytes) = true) :
    ∃ l : List ActM, len = l.length ∧ ActsIn W a l ∧ l.length ≤ 140737488351232 := by
  obtain ⟨fuel, hf⟩ := h
  rcases Go.Deep.open_slice Try.underlying56 hf with ⟨hcs, _⟩ | ⟨x, len', cap', m, n, D, Pl, hcs, _, hlc, hcm, hm, hd, hel⟩
  · simp [Value.cells] at hcs
    obtain ⟨rfl, rfl, rfl⟩ := hcs
    exact ⟨[], rfl, ⟨fun i x hi => by simp at hi⟩, by simp⟩
  · simp [Value.cells] at hcs
    obtain ⟨rfl, rfl, rfl⟩ := hcs
    cases hd
    have hcn : Try.prog.cellsOf 115 = 3 := by kernel_rfl
    have hbn : Try.prog.bytesOf 115 = 32 := by kernel_rfl
    have hlm : len ≤ m := by rw [hm]; split <;> omega
    have one : ∀ i, i < len → ∃ z : ActM, ∃ b off, x = ⟨b, off, none⟩ ∧ W.cell? ⟨b, off + i * 3, none⟩ = some (.string z.text) ∧ W.cell? ⟨b, off + i * 3 + 1, none⟩ = some (.int .i64 z.up) ∧ W.cell? ⟨b, off + i * 3 + 2, none⟩ = some (.bool z.opn) := by
      intro i hi
      obtain ⟨cs', hcs', htr⟩ := hel i (by omega)
      rw [hcn] at hcs'
      obtain ⟨z, rfl⟩ := act_cells htr
      have c0 := cells_get hcs' 0 _ rfl
      have c1 := cells_get hcs' 1 _ rfl
      have c2 := cells_get hcs' 2 _ rfl
      rw [Go.Deep.add_add] at c0 c1 c2
      obtain ⟨i0, hi0⟩ : ∃ i0 : Nat, i0 = 0 := ⟨0, rfl⟩
      obtain ⟨cs0, hcs0, htr0⟩ := hel i0 (by omega)
      rw [hcn] at hcs0
      obtain ⟨z', rfl⟩ := act_cells htr0
      have p0 := cells_get hcs0 0 _ rfl
      rw [Go.Deep.add_add, show i0 * 3 + 0 = 0 by omega] at p0
      obtain ⟨b, off, rfl⟩ := addr_plain p0
      rw [add_at] at c0 c1 c2
      exact ⟨z, b, off, rfl, c0, c1, c2⟩
    obtain ⟨f, hf'⟩ : ∃ f : Nat → ActM, ∀ i, i < len → ∃ b off, x = ⟨b, off, none⟩ ∧ W.cell? ⟨b, off + i * 3, none⟩ = some (.string (f i).text) ∧ W.cell? ⟨b, off + i * 3 + 1, none⟩ = some (.int .i64 (f i).up) ∧ W.cell? ⟨b, off + i * 3 + 2, none⟩ = some (.bool (f i).opn) := by
      have : Inhabited ActM := ⟨⟨⟨#[]⟩, 0, false⟩⟩
      exact Go.Deep.choose_lt one
    refine ⟨(List.range len).map f, by simp, ⟨fun i y hi => ?_⟩, ?_⟩
    · have hlt : i < len := by have := (List.getElem?_eq_some_iff.1 hi).1; simpa using this
      have hy : f i = y := by simpa [hlt] using hi
      obtain ⟨b, off, e, c0, c1, c2⟩ := hf' i hlt
      subst hy
      exact ⟨b, off, by rw [e], c0, c1, c2⟩
    · have := List.all_eq_true.1 hw (((List.range len).map D).length * 32 + ((List.range (m - len)).map fun j => D (len + j)).length * 32) (by simp [DataW.weights, Try.underlying56, hbn, Nat.add_mul])
      simp [reachBytes] at this
      simp
      omega
end
end Go.Proofs.Ytmllhebmaldgfaa
