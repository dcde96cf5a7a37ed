import Derived.Test.YtgmlngmfocdmhaaTc
/-
  Package place: Chars at the end of a node that is empty, or that has a text at its end.
-/
namespace Go.Proofs.Ytgmlngmfocdmhaa
open Go.RowKit

theorem path_fromT {f : Nat → Option Int} : ∀ {path : List Nat} {k : Int}, PathOf f k path → ∀ x ∈ path, (x : Int) = k ∨ ∃ y : Nat, f y = some (x : Int)
  | [], _, _, x, hx => by cases hx
  | y :: rest, k, h, x, hx => by
    obtain ⟨h1, k', h2, h3⟩ := h
    rcases List.mem_cons.1 hx with rfl | hx
    · exact .inl h1.symm
    · rcases path_fromT h3 x hx with e | e
      · exact .inr ⟨y, by rw [h2, e]⟩
      · exact .inr e


theorem link_newG {ns : List NodeM} {os : List OneM} {c : OneM} (hs : Sim ns (os ++ [c])) (g0 : c.kids = []) (g1 : c.inner = -1) (g2 : c.up = -1) (g3 : c.kind ≠ 0) (g4 : c.kind ≠ 5) {q : Nat} {oq : OneM} (hq : os[q]? = some oq) (hk : oq.kind = 0 ∨ oq.kind = 1 ∨ oq.kind = 5) :
    unlinkR (os ++ [c]) (os.length : Int) = os ++ [c] ∧ linkE (os ++ [c]) (q : Int) (os.length : Int) (-1) = 0 := by
  have hql := (List.getElem?_eq_some_iff.1 hq).1
  have hq' : (os ++ [c])[q]? = some oq := by rw [List.getElem?_append_left hql]; exact hq
  have hc : (os ++ [c])[os.length]? = some c := by simp
  have hup : upIO (os ++ [c]) (os.length : Int) = -1 := by rw [upIO_of hc]; exact g2
  have hue : unlinkE (os ++ [c]) (os.length : Int) = 5 := by
    unfold unlinkE
    rw [hasO_of hc, hup]
    rfl
  refine ⟨by unfold unlinkR; rw [hue]; rfl, ?_⟩
  have hab : aboveO (os ++ [c]) (q : Int) (os.length : Int) = false := by
    obtain ⟨path, hp⟩ := hs.ends q (by simp; omega)
    rw [aboveO_of hq' (hasO_of hc) hp]
    unfold inPath
    rw [List.any_eq_false]
    intro x hx he
    have hxe : (x : Int) = (os.length : Int) := by simpa using he
    rcases path_fromT hp x hx with e | ⟨y, hy⟩
    · omega
    · unfold upO at hy
      cases hoy : (os ++ [c])[y]? with
      | none => rw [hoy] at hy; cases hy
      | some o =>
        rw [hoy, Option.map_some] at hy
        have hxn : x = os.length := by omega
        subst hxn
        by_cases hu : o.up = -1
        · rw [if_pos hu] at hy
          have hh : o.host = (os.length : Int) := by simpa using hy
          rcases hs.host y o hoy with e | ⟨_, h0, m, e1, e2, e3, e4⟩
          · omega
          · have : h0 = os.length := by omega
            subst this
            rw [hc] at e3
            cases e3
            omega
        · rw [if_neg hu] at hy
          have hh : o.up = (os.length : Int) := by simpa using hy
          rcases hs.up y o hoy with e | ⟨p, m, e1, e2, e3⟩
          · omega
          · have : p = os.length := by omega
            subst this
            rw [hc] at e2
            cases e2
            rw [g0] at e3
            cases e3
  unfold linkE
  rw [hasO_of hq', hasO_of hc, kindO_of hq', kindO_of hc, hup, hab]
  have hp : parentM oq.kind = true := by
    unfold parentM
    rcases hk with e | e | e <;> rw [e] <;> decide
  rw [hp]
  simp [g3, g4]

def pTag : ByteArray := ⟨#[112]⟩
/-- An element without children, and one with one text. -/
def S0 : List OneM := [oneM 0, elemQ 0 pTag []]
def S1 (d : ByteArray) : List OneM := [oneM 0, { elemQ 0 pTag [] with kids := [2] }, { dataQ 2 d with up := 1 }]
theorem s0_elem : elemO [oneM 0] 0 pTag [] = (S0, 1, 0) := by
  unfold elemO
  rw [if_neg (by omega), show longE pTag [] = false by decide +kernel, if_neg (by decide), if_neg (by decide +kernel)]
  rfl
theorem s1_text (s : ByteArray) (hs : s.size ≤ 1048576) : dataO S0 2 s = (S0 ++ [dataQ 2 s], 2, 0) := by
  unfold dataO addO
  rw [show longS s = false by unfold longS; exact decide_eq_false (by omega)]
  rfl
theorem s1_link (s : ByteArray) {ns : List NodeM} (hs : Sim ns (S0 ++ [dataQ 2 s])) : unlinkR (S0 ++ [dataQ 2 s]) 2 = S0 ++ [dataQ 2 s] ∧ linkE (S0 ++ [dataQ 2 s]) 1 2 (-1) = 0 ∧ linkR (S0 ++ [dataQ 2 s]) 1 2 (-1) = S1 s := by
  have h := link_newG hs rfl rfl rfl (by simp [dataQ, oneM]) (by simp [dataQ, oneM]) (q := 1) (oq := elemQ 0 pTag []) rfl (.inr (.inl rfl))
  refine ⟨h.1, h.2, ?_⟩
  unfold linkR
  rw [show linkE (S0 ++ [dataQ 2 s]) 1 2 (-1) = 0 from h.2, if_pos rfl]
  rfl
theorem s1_set (d s : ByteArray) (hs : s.size ≤ 1048576) : setDataE (S1 d) 2 s = 0 ∧ setDataR (S1 d) 2 s = S1 s := by
  have e : setDataE (S1 d) 2 s = 0 := by
    unfold setDataE
    rw [show longS s = false by unfold longS; exact decide_eq_false (by omega)]
    rfl
  refine ⟨e, ?_⟩
  unfold setDataR
  rw [e, if_pos rfl]
  rfl

section
variable {w wx : World} {obs : List (Ob w.heap.size)} {i bA : Nat}
theorem put_text (h : Env w wx obs) {s : ByteArray} (hi : obs[i]? = some (aO _ bA (S0 ++ [dataQ 2 s]))) :
    Calls Try.prog 32 #[.pointer (some ⟨bA, 0, none⟩), .agg #[.int .i64 1, .int .i64 (-1)], .int .i64 2] wx fun e w' => e = .returned (.int .i64 0) ∧ Env w w' (obs.set i (aO _ bA (S1 s))) := by
  obtain ⟨ns, hs⟩ := h.sim hi
  obtain ⟨h1, h2, h3⟩ := s1_link s hs
  have hp := put_end h hi 1 2 rfl rfl
  unfold spotV endE at hp
  rw [h1, h2, if_pos rfl, h3] at hp
  exact hp

set_option maxHeartbeats 1000000 in
set_option maxRecDepth 100000 in
theorem putText_any (h : Env w wx obs) (hi : obs[i]? = some (aO _ bA S0)) (s : ByteArray) (hs : s.size ≤ 1048576) :
    Calls Try.prog 22 #[.pointer (some ⟨bA, 0, none⟩), .agg #[.int .i64 1, .int .i64 (-1)], .string s] wx fun e w' => e = .returned (.int .i64 0) ∧ Env w w' (obs.set i (aO _ bA (S1 s))) := by
  have hlt : i < obs.length := (List.getElem?_eq_some_iff.1 hi).1
  have hB := h.boxed #[.int .i64 1, .int .i64 (-1)] 29
  have hi1 : (obs ++ [blkOb _ wx.heap.size #[.int .i64 1, .int .i64 (-1)] 29])[i]? = some (aO _ bA S0) := by rw [List.getElem?_append_left hlt]; exact hi
  have hK1 : (obs ++ [blkOb _ wx.heap.size #[.int .i64 1, .int .i64 (-1)] 29])[obs.length]? = some (blkOb _ wx.heap.size #[.int .i64 1, .int .i64 (-1)] 29) := by simp
  have hfin : (((obs ++ [blkOb _ wx.heap.size #[.int .i64 1, .int .i64 (-1)] 29]).set i (aO _ bA (S0 ++ [dataQ 2 s]))).set i (aO _ bA (S1 s))).take obs.length = obs.set i (aO _ bA (S1 s)) := by
    rw [List.set_set, List.set_append_left _ _ hlt, List.take_append_of_le_length (by simp), List.take_of_length_le (by simp)]
  generalize hobs1 : obs ++ [blkOb _ wx.heap.size #[.int .i64 1, .int .i64 (-1)] 29] = obs1 at *
  have hlen1 : obs1.length = obs.length + 1 := by rw [← hobs1]; simp
  have hi2 : (obs1.set i (aO _ bA (S0 ++ [dataQ 2 s])))[i]? = some (aO _ bA (S0 ++ [dataQ 2 s])) := by rw [List.getElem?_set_self (by omega)]
  have hK2 : (obs1.set i (aO _ bA (S0 ++ [dataQ 2 s])))[obs.length]? = some (blkOb _ wx.heap.size #[.int .i64 1, .int .i64 (-1)] 29) := by rw [List.getElem?_set_ne (by omega)]; exact hK1
  have HB := hide hB
  have HM := hide (fun W (hW : Env w W obs1) => mayText_ok hW hi1 (k := 1) (o := elemQ 0 pTag []) rfl rfl (by simp [S0]) s hs)
  have ht := fun W (hW : Env w W obs1) => atext_any hW hi1 s
  rw [s1_text s hs] at ht
  have HT := hide ht
  have HK2 := hide (fun W (hW : Env w W (obs1.set i (aO _ bA (S0 ++ [dataQ 2 s])))) => Box2.cells (hW.block hK2))
  have HP := hide (fun W (hW : Env w W (obs1.set i (aO _ bA (S0 ++ [dataQ 2 s])))) => put_text hW hi2)
  have HFIN := hide hfin
  unfold spotV at HM
  clear hB hi1 hK1 hi2 hK2 hfin h hi hobs1 hlen1 hlt ht hs
  go_enter Try.func22, Try.ntmps22
  go_wp2_with (first
    | (go_at_call 30; refine ((unhide HM) _ (unhide HB)).mono ?_; rintro e w1 ⟨rfl, hb⟩; have HB1 := hide ((unhide HB).more hb); clear hb)
    | (go_at_call 31; refine ((unhide HT) _ (unhide HB1)).mono ?_; rintro e w2 ⟨rfl, he⟩; have HB2 := hide he; obtain ⟨k0, k1, f0, f1⟩ := (unhide HK2) _ he; clear he)
    | (go_at_call 32; refine ((unhide HP) _ (unhide HB2)).mono ?_; rintro e w3 ⟨rfl, he⟩; have HB3 := hide he; clear he))
  go_ret
  have R := (unhide HB3).take obs.length
  rw [unhide HFIN] at R
  exact ⟨rfl, R⟩

theorem set_self {α : Type} {l : List α} {i : Nat} {x : α} (h : l[i]? = some x) : l.set i x = l := by
  refine List.ext_getElem? fun k => ?_
  rw [List.getElem?_set]
  by_cases hk : i = k
  · subst hk
    rw [if_pos rfl, if_pos (List.getElem?_eq_some_iff.1 h).1, h]
  · rw [if_neg hk]

set_option maxHeartbeats 1000000 in
set_option maxRecDepth 100000 in
theorem chars_first (h : Env w wx obs) (hi : obs[i]? = some (aO _ bA S0)) {a : Option Addr} {l : List Int} (hin : RunesIn wx a l) (hl : l.length ≤ 1000) (h0 : l ≠ []) (cap : Nat) :
    Calls Try.prog 6 #[.pointer (some ⟨bA, 0, none⟩), .agg #[.int .i64 1, .int .i64 (-1)], .slice a l.length cap] wx fun e w' => e = .returned (.int .i64 0) ∧ Env w w' (obs.set i (aO _ bA (S1 (strE l)))) := by
  have hpos := List.length_pos_iff.2 h0
  have hne : ((l.length : Int) == 0) = false := by simp; omega
  have hne2 : ¬ ((l.length : Int) = 0) := by omega
  have hsz : (strE l).size ≤ 1048576 := by rw [strE_size]; have := (encL_len l).2; omega
  have HE := hide h
  have HA := hide (fun W (hW : Env w W obs) => amadeA hW hi)
  have HP := hide (fun W (hW : Env w W obs) => placeThere_end hW hi 1)
  rw [show hasO S0 1 = true from rfl] at HP
  have HU := hide (fun W (hW : RunesIn W a l) => utf8_str hW (by omega) h0 cap)
  have HI := hide (fun W (hW : Env w W obs) => asItIs_end hW hi 1)
  have HH := hide (fun W (hW : Env w W obs) => ahead_end hW hi (k := 1) (o := elemQ 0 pTag []) rfl)
  have HN := hide (fun W (hW : Env w W obs) => anode_no hW hi (k := -1) (by simp [hasO]))
  have HT := hide (fun W (hW : Env w W obs) => putText_any hW hi (strE l) hsz)
  have HIN := hide hin
  rw [show lastK (elemQ 0 pTag []).kids = -1 from rfl] at HH
  unfold spotV at HP HI HH
  unfold nodeZ at HN
  generalize l.length = n at *
  clear h hi hin hl h0 hpos hsz
  go_enter Try.func6, Try.ntmps6
  go_wp2_with (first
    | (go_at_call 16; refine ((unhide HA) _ ((unhide HE).more (below_new _ _))).mono ?_; rintro e w1 ⟨rfl, rfl⟩)
    | (go_at_call 17; refine ((unhide HP) _ ((unhide HE).more (below_new _ _))).mono ?_; rintro e w2 ⟨rfl, hb⟩; have HS2 := hide ((Sp.new wx 1 (-1)).more hb); clear hb)
    | (go_at_call 18; refine ((unhide HU) _ ((unhide HIN).below (unhide HS2).bel)).mono ?_; rintro e w3 ⟨g, c, rfl, hconv, hb⟩; have HS3 := hide ((unhide HS2).more hb); clear hb; obtain ⟨l0, l1, m0, m1⟩ := (unhide HS3).cells)
    | (go_at_call 20; refine ((unhide HI) _ ((unhide HE).more (unhide HS3).bel)).mono ?_; rintro e w4 ⟨rfl, hb⟩; have HS4 := hide ((unhide HS3).more hb); clear hb l0 l1 m0 m1 hconv)
    | (go_at_call 19; refine ((unhide HH) _ ((unhide HE).more (unhide HS4).bel)).mono ?_; rintro e w5 ⟨rfl, hb⟩; have HS5 := hide ((unhide HS4).more hb); clear hb)
    | (go_at_call 9; refine ((unhide HN) _ ((unhide HE).more (unhide HS5).bel)).mono ?_; rintro e w6 ⟨rfl, hb⟩; have HS6 := hide ((unhide HS5).more hb); clear hb; obtain ⟨l0, l1, m0, m1⟩ := (unhide HS6).cells; obtain ⟨z0, z1, z2, z3⟩ := ((unhide HS6).alloc (.cells #[.int .i64 0, .int .i64 0, .string ⟨#[]⟩, .slice none 0 0, .string ⟨#[]⟩, .string ⟨#[]⟩, .int .i64 0, .int .i64 0, .int .i64 0, .int .i64 0, .int .i64 0, .int .i64 0] 37)).cells)
    | (go_at_call 22; refine ((unhide HT) _ ((unhide HE).more ((unhide HS6).alloc _).bel)).mono ?_; rintro e w7 ⟨rfl, he⟩; have HF := hide he; clear he))
  go_ret
  exact ⟨rfl, unhide HF⟩
set_option maxHeartbeats 1000000 in
set_option maxRecDepth 100000 in
theorem chars_more {d : ByteArray} (h : Env w wx obs) (hi : obs[i]? = some (aO _ bA (S1 d))) {a : Option Addr} {l : List Int} (hin : RunesIn wx a l) (hl : l.length ≤ 1000) (h0 : l ≠ []) (cap : Nat) (hd : (d ++ strE l).size ≤ 1048576) :
    Calls Try.prog 6 #[.pointer (some ⟨bA, 0, none⟩), .agg #[.int .i64 1, .int .i64 (-1)], .slice a l.length cap] wx fun e w' => e = .returned (.int .i64 0) ∧ Env w w' (obs.set i (aO _ bA (S1 (d ++ strE l)))) := by
  have hpos := List.length_pos_iff.2 h0
  have hne : ((l.length : Int) == 0) = false := by simp; omega
  have hne2 : ¬ ((l.length : Int) = 0) := by omega
  have hcat : ¬ (9223372036854775807 < d.size + (strE l).size) := by rw [ByteArray.size_append] at hd; omega
  have HE := hide h
  have HA := hide (fun W (hW : Env w W obs) => amadeA hW hi)
  have HP := hide (fun W (hW : Env w W obs) => placeThere_end hW hi 1)
  rw [show hasO (S1 d) 1 = true from rfl] at HP
  have HU := hide (fun W (hW : RunesIn W a l) => utf8_str hW (by omega) h0 cap)
  have HI := hide (fun W (hW : Env w W obs) => asItIs_end hW hi 1)
  have HH := hide (fun W (hW : Env w W obs) => ahead_end hW hi (k := 1) (o := { elemQ 0 pTag [] with kids := [2] }) rfl)
  have HN := hide (fun W (hW : Env w W obs) => anode_in hW hi (k := 2) (o := { dataQ 2 d with up := 1 }) rfl)
  have ht := fun W (hW : Env w W obs) => asetData_any hW hi 2 (d ++ strE l)
  rw [(s1_set d _ hd).1, (s1_set d _ hd).2] at ht
  have HT := hide ht
  clear ht
  have HIN := hide hin
  rw [show lastK ({ elemQ 0 pTag [] with kids := [2] } : OneM).kids = 2 from rfl] at HH
  unfold spotV at HP HI HH
  generalize l.length = n at *
  clear h hi hin hl h0 hpos hd
  go_enter Try.func6, Try.ntmps6
  go_wp2_with (first
    | (go_at_call 16; refine ((unhide HA) _ ((unhide HE).more (below_new _ _))).mono ?_; rintro e w1 ⟨rfl, rfl⟩)
    | (go_at_call 17; refine ((unhide HP) _ ((unhide HE).more (below_new _ _))).mono ?_; rintro e w2 ⟨rfl, hb⟩; have HS2 := hide ((Sp.new wx 1 (-1)).more hb); clear hb)
    | (go_at_call 18; refine ((unhide HU) _ ((unhide HIN).below (unhide HS2).bel)).mono ?_; rintro e w3 ⟨g, c, rfl, hconv, hb⟩; have HS3 := hide ((unhide HS2).more hb); clear hb; obtain ⟨l0, l1, m0, m1⟩ := (unhide HS3).cells)
    | (go_at_call 20; refine ((unhide HI) _ ((unhide HE).more (unhide HS3).bel)).mono ?_; rintro e w4 ⟨rfl, hb⟩; have HS4 := hide ((unhide HS3).more hb); clear hb l0 l1 m0 m1 hconv)
    | (go_at_call 19; refine ((unhide HH) _ ((unhide HE).more (unhide HS4).bel)).mono ?_; rintro e w5 ⟨rfl, hb⟩; have HS5 := hide ((unhide HS4).more hb); clear hb)
    | (go_at_call 9; refine ((unhide HN) _ ((unhide HE).more (unhide HS5).bel)).mono ?_; rintro e w6 ⟨n, ao, m, c, rfl, hn, hb⟩; have HS6 := hide ((unhide HS5).more hb); obtain ⟨nk, nsp, nm, av, da, sy, pa, fi, la, pr, ne, inn, att⟩ := n; have ek : nk = 2 := hn.same.kind; subst ek; have ed : da = d := hn.same.data; subst ed; clear hb hn; simp only [nodeV, NodeM.cells])
    | (go_at_call 21; refine ((unhide HT) _ ((unhide HE).more ((unhide HS6).alloc _).bel)).mono ?_; rintro e w7 ⟨rfl, he⟩; have HF := hide he; clear he))
  go_ret
  exact ⟨rfl, unhide HF⟩
end
end Go.Proofs.Ytgmlngmfocdmhaa
