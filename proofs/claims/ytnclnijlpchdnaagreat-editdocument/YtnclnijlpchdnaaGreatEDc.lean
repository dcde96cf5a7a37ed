/-
  Proved: under any script of changes a document has at most one element and one doctype as children, the doctype ahead of the element, and no text: EditDocument returns true for every script, and changes nothing. Conditions: none beyond the given row's own.
-/
import Derived.Test.YtnclnijlpchdnaaGreatE7
import Derived.Deep.LoopGhost
import Derived.Deep.QuietTactic
import Derived.BigQuiet
import Derived.Deep.RegionWith
namespace Go.Proofs.YtnclnijlpchdnaaGreat
open Go.RowKit

theorem unlinkR_len (os : List OneM) (c : Int) : (unlinkR os c).length = os.length := by
  have := congrArg List.length (kinds_unlink os c)
  simpa [kinds] using this
theorem unlinkR_get (os : List OneM) (c : Nat) {ns : List NodeM} (hs : Sim ns os) (i : Nat) (o : OneM) (ho : os[i]? = some o) :
    ∃ o', (unlinkR os c)[i]? = some o' ∧ o'.kind = o.kind ∧ o'.host = o.host ∧ o'.inner = o.inner ∧ (i = c → o'.up = -1) ∧ (i ≠ c → o'.up = o.up) ∧ o'.kids = o.kids.filter (· ≠ c) := by
  by_cases e0 : unlinkE os c = 0
  · have hh : hasO os c = true := by
      cases hh : hasO os c with
      | false => rw [unlinkE, if_pos hh] at e0; cases e0
      | true => rfl
    obtain ⟨ci, oc, hci, hoc⟩ := hasO_yes hh
    obtain rfl : ci = c := by omega
    have hu : oc.up ≠ -1 := fun e => by
      rw [unlinkE, if_neg (by rw [hh]; decide), upIO_of hoc, if_pos e] at e0
      cases e0
    obtain ⟨p, op, A, B, hup, hop, hk⟩ := hs.cut hoc hu
    have hr : unlinkR os ci = unlinkO os p ci := by rw [unlinkR, if_pos e0, upIO_of hoc, hup]; simp
    rw [hr, unlinkO_get, ho]
    refine ⟨_, rfl, rfl, rfl, rfl, fun e => by simp [e], fun e => by simp [e], ?_⟩
    by_cases e : i = p
    · simp [e]
    · simp only [e, if_false]
      refine (List.filter_eq_self.2 fun x hx => ?_).symm
      have : x ≠ ci := fun ex => by
        subst ex
        obtain ⟨m, hm, hmu⟩ := hs.down i o x ho hx
        rw [hoc] at hm; cases hm
        rw [hup] at hmu
        omega
      simpa using this
  · rw [unlinkR, if_neg e0]
    refine ⟨o, ho, rfl, rfl, rfl, fun e => ?_, fun _ => rfl, (List.filter_eq_self.2 fun x hx => ?_).symm⟩
    · subst e
      have hh := hasO_of ho
      rw [unlinkE, hh, if_neg (by simp), upIO_of ho] at e0
      by_cases h : o.up = -1
      · exact h
      · rw [if_neg h] at e0; exact absurd rfl e0
    · have : x ≠ c := fun ex => by
        subst ex
        obtain ⟨m, hm, hmu⟩ := hs.down i o x ho hx
        have hh := hasO_of hm
        rw [unlinkE, hh, if_neg (by simp), upIO_of hm, if_neg (by omega)] at e0
        exact absurd rfl e0
      simpa using this

theorem path_avoid {f g : Nat → Option Int} {c : Nat} (hfg : ∀ i, i ≠ c → g i = f i) : ∀ {l : List Nat} {k : Int}, c ∉ l → PathOf f k l → PathOf g k l
  | [], _, _, h => h
  | i :: r, k, hc, h => by
    obtain ⟨e, m, hm, hr⟩ := h
    have hi : i ≠ c := fun e => hc (by simp [e])
    exact ⟨e, m, by rw [hfg i hi]; exact hm, path_avoid hfg (fun h => hc (by simp [h])) hr⟩

/-- What mayE = 0 says. -/
structure MayOk (os : List OneM) (i p : Nat) (b : Int) : Prop where
  hi : hasO os i = true
  hp : hasO os p = true
  hb : b = -1 ∨ (hasO os b = true ∧ upIO os b = p)
  par : parentM (kindO os p) = true
  above : aboveO os p i = false
  fits : fitsO os i p b = true
theorem mayOk {os : List OneM} {id pa b : Int} (h : mayE os id pa b = 0) : ∃ i p : Nat, id = i ∧ pa = p ∧ MayOk os i p b := by
  unfold mayE at h
  split at h
  · cases h
  · rename_i h1
    simp only [Bool.not_eq_false, Bool.and_eq_true] at h1
    obtain ⟨i, oi, rfl, hoi⟩ := hasO_yes h1.1
    obtain ⟨p, op, rfl, hop⟩ := hasO_yes h1.2
    refine ⟨i, p, rfl, rfl, ?_⟩
    split at h
    · cases h
    · rename_i h2
      split at h
      · cases h
      · rename_i h3
        split at h
        · cases h
        · rename_i h4
          split at h
          · cases h
          · rename_i h5
            refine ⟨h1.1, h1.2, ?_, ?_, ?_, by simpa using h5⟩
            · by_cases e : b = -1
              · exact .inl e
              · refine .inr ⟨?_, Decidable.byContradiction fun e' => h4 ⟨e, e'⟩⟩
                cases hh : hasO os b with
                | false => exact absurd ⟨e, hh⟩ h2
                | true => rfl
            · cases hh : parentM (kindO os p) with
              | false => exact absurd (.inl hh) h3
              | true => rfl
            · cases hh : aboveO os p i with
              | true => exact absurd (.inr hh) h3
              | false => rfl

theorem put_ok {ns : List NodeM} {os : List OneM} (hs : Sim ns os) (h00 : K0 os) {i p : Nat} {b : Int} (h : MayOk os i p b) (h5 : kindO os i ≠ 5) :
    ∃ o', (putO p (insB os i b) os i)[i]? = some o' ∧ o'.up = (p : Int) ∧ o'.kind = kindO os i ∧ (nbr (putO p (insB os i b) os i) i o').2 = insB os i b := by
  obtain ⟨i', oi, e, hoi⟩ := hasO_yes h.hi
  obtain rfl : i' = i := by omega
  obtain ⟨p', op, e, hop⟩ := hasO_yes h.hp
  obtain rfl : p' = p := by omega
  have hil := (List.getElem?_eq_some_iff.1 hoi).1
  have hpl := (List.getElem?_eq_some_iff.1 hop).1
  have hpi : p' ≠ i' := fun e => by
    subst e
    have := h.above
    rw [above_self hs p' hpl] at this
    cases this
  have hk0 : kindO os i' ≠ 0 := fun e => by
    have hf := h.fits
    by_cases hq : p' = 0
    · obtain rfl := h00 i' e
      exact hpi hq
    · rw [fits_else hq, e] at hf
      simp at hf
  obtain ⟨o1, ho1, k1, _, _, u1, _, _⟩ := unlinkR_get os i' hs i' oi hoi
  obtain ⟨q1, hq1, kq, _, _, _, uq, kidq⟩ := unlinkR_get os i' hs p' op hop
  obtain ⟨ms, hms⟩ := simR_unlink hs (i' : Int)
  have hup1 := u1 rfl
  -- the way up of the parent does not meet the node
  obtain ⟨path, hpath⟩ := hs.ends p' hpl
  have hnot : i' ∉ path := fun hx => by
    have := h.above
    rw [aboveO_of hop (hasO_of hoi) hpath, mem_inPath.2 hx] at this
    cases this
  have hupO : ∀ x, x ≠ i' → upO (unlinkR os i') x = upO os x := fun x hx => by
    cases hox : os[x]? with
    | none =>
      have hxl : (unlinkR os i')[x]? = none := by
        rw [List.getElem?_eq_none_iff, unlinkR_len]
        exact List.getElem?_eq_none_iff.1 hox
      unfold upO
      rw [hox, hxl]
    | some ox =>
      obtain ⟨o2, ho2, _, hh2, _, _, hu2, _⟩ := unlinkR_get os i' hs x ox hox
      unfold upO
      rw [hox, ho2]
      simp [hh2, hu2 hx]
  have hpath1 : PathOf (upO (unlinkR os i')) p' path := path_avoid hupO hnot hpath
  have hab1 : aboveO (unlinkR os i') p' i' = false := by
    rw [aboveO_of hq1 (hasO_of ho1) hpath1]
    cases hx : inPath path (i' : Int) with
    | false => rfl
    | true => exact absurd (mem_inPath.1 hx) hnot
  -- the place
  have hupx : ∀ x : Nat, x ≠ i' → ∀ ox, os[x]? = some ox → upIO (unlinkR os i') x = ox.up := fun x hx ox hox => by
    obtain ⟨o2, ho2, _, _, _, _, hu2, _⟩ := unlinkR_get os i' hs x ox hox
    rw [upIO_of ho2, hu2 hx]
  have hb1 : insB os i' b = -1 ∨ ∃ x : Nat, insB os i' b = (x : Int) ∧ x ≠ i' ∧ ∃ ox, os[x]? = some ox ∧ ox.up = (p' : Int) := by
    unfold insB
    by_cases e : b = (i' : Int)
    · rw [if_pos e]
      have hub : oi.up = (p' : Int) := by
        rcases h.hb with hb | ⟨_, hb⟩
        · omega
        · rw [e, upIO_of hoi] at hb; exact hb
      obtain ⟨q, oq, A, B, hup, hoq, hkq⟩ := hs.cut hoi (by omega)
      obtain rfl : q = p' := by omega
      rw [hop] at hoq; cases hoq
      have hA : i' ∉ A := by
        have hnd := (hs.kids q op hop).nodup
        rw [hkq, List.nodup_append] at hnd
        exact fun hx => hnd.2.2 i' hx i' (by simp) rfl
      have hnx : nextO os i' = headI B := by
        have := nbr_cut hub hop hkq hA
        simp [nextO, hoi, this]
      rw [hnx]
      cases B with
      | nil => exact .inl rfl
      | cons x B =>
        refine .inr ⟨x, rfl, ?_, ?_⟩
        · have hnd := (hs.kids q op hop).nodup
          rw [hkq, List.nodup_append] at hnd
          have := hnd.2.1
          rw [List.nodup_cons] at this
          exact fun e => this.1 (by simp [e])
        · exact hs.down q op x hop (by rw [hkq]; simp)
    · rw [if_neg e]
      rcases h.hb with hb | ⟨hb, hu⟩
      · exact .inl hb
      · obtain ⟨x, ox, rfl, hox⟩ := hasO_yes hb
        exact .inr ⟨x, rfl, fun ex => e (by omega), ox, hox, by rw [upIO_of hox] at hu; exact hu⟩
  have hlink : linkE (unlinkR os i') p' i' (insB os i' b) = 0 := by
    unfold linkE
    have hbb : (insB os i' b == -1 || hasO (unlinkR os i') (insB os i' b)) = true := by
      rcases hb1 with e | ⟨x, e, hx, ox, hox, hux⟩
      · simp [e]
      · rw [e]
        obtain ⟨o2, ho2, _⟩ := unlinkR_get os i' hs x ox hox
        rw [hasO_of ho2]; simp
    have hpar : parentM (kindO (unlinkR os i') p') = true := by rw [kindO_of hq1, kq, ← kindO_of hop]; exact h.par
    rw [hasO_of hq1, hasO_of ho1, hbb, if_neg (by simp), if_neg, if_neg, if_neg]
    · rcases hb1 with e | ⟨x, e, hx, ox, hox, hux⟩
      · simp [e]
      · rw [e, hupx x hx ox hox, hux]; simp
    · rw [upIO_of ho1, hup1, hab1]; simp
    · rw [hpar, kindO_of ho1, k1, ← kindO_of hoi]
      rintro (e | e | e)
      · cases e
      · exact hk0 e
      · exact h5 e
  have hput : putO p' (insB os i' b) os i' = linkO (unlinkR os i') p' i' (insB os i' b) := by
    unfold putO
    rw [linkR, if_pos hlink]
    simp
  rw [hput]
  have hmem : insB os i' b = -1 ∨ ∃ x ∈ q1.kids, insB os i' b = (x : Int) := by
    rcases hb1 with e | ⟨x, e, hx, ox, hox, hux⟩
    · exact .inl e
    · refine .inr ⟨x, ?_, e⟩
      rw [kidq, List.mem_filter]
      rcases hs.up x ox hox with e' | ⟨q, m, e', hqm, hi⟩
      · omega
      · obtain rfl : q = p' := by omega
        rw [hop] at hqm; cases hqm
        exact ⟨hi, by simpa using hx⟩
  have hnd1 := (hms.kids p' q1 hq1).nodup
  obtain ⟨A, B, hAB, hins, hhead⟩ := insO_cut hnd1 hmem i'
  have hg := linkO_get (unlinkR os i') p' i' (insB os i' b) i'
  have hgp := linkO_get (unlinkR os i') p' i' (insB os i' b) p'
  rw [ho1] at hg
  rw [hq1] at hgp
  refine ⟨_, hg, by simp, by show o1.kind = _; rw [k1, kindO_of hoi], ?_⟩
  have hA : i' ∉ A := fun hx => by
    have : i' ∈ q1.kids := by rw [hAB]; exact List.mem_append_left _ hx
    rw [kidq, List.mem_filter] at this
    simpa using this.2
  rw [nbr_cut (p := p') (A := A) (B := B) (by simp) hgp (by simp [hins]) hA, hhead]
end Go.Proofs.YtnclnijlpchdnaaGreat

namespace Go.Proofs.YtnclnijlpchdnaaGreat
open Go.RowKit

/-- What both tell of a node. -/
def toldV (t : NodeM) (a : Option Addr) (c : Nat) : Value := .agg #[.int .i64 t.kind, .int .i64 t.space, .string t.name, .slice a t.attrs.length c, .string t.data, .string t.system, .int .i64 t.parent, .int .i64 t.first, .int .i64 t.last, .int .i64 t.prev, .int .i64 t.next, .int .i64 t.inner]

structure TellQ (w : World) (bA bR : Nat) (os : List OneM) (g cap : Nat) : Prop where
  prog : ∀ W (i : Nat) o, Below w.heap.size w W → os[i]? = some o → Calls Tryz.prog 12 #[.pointer (some ⟨bA, 0, none⟩), .int .i64 i] W fun e w' => ∃ a c, e = .returned (.tuple #[toldV (tellN os i o) a c, .int .i64 0]) ∧ AttrsIn w' a o.attrs ∧ Below W.heap.size W w'
  ref : ∀ W (i : Nat) o, Below w.heap.size w W → os[i]? = some o → Calls Tryz.prog 33 #[.pointer (some ⟨bR, 0, none⟩), .int .i64 i] W fun e w' => ∃ a c, e = .returned (.tuple #[toldV (tellN os i o) a c, .int .i64 0]) ∧ AttrsIn w' a o.attrs ∧ Below W.heap.size W w'
  len : ∀ W, Below w.heap.size w W → Calls Tryz.prog 34 #[.pointer (some ⟨bA, 0, none⟩)] W fun e w' => e = .returned (.int .i64 os.length) ∧ W = w'
  row : ∀ W, Below w.heap.size w W → W.cell? ⟨bR, 0, none⟩ = some (.slice (some ⟨g, 0, none⟩) os.length cap)
  few : ∀ (i : Nat) o, os[i]? = some o → o.attrs.length ≤ 1024
  most : os.length ≤ 32768

theorem tellQ {w0 w : World} {bA bR : Nat} {os : List OneM} (h : Both w0 w bA bR os) : ∃ g cap, TellQ w bA bR os g cap := by
  obtain ⟨ns, F, G, hp⟩ := h
  obtain ⟨g, cap, hN⟩ := nodesAt hp.rf
  refine ⟨g, cap, fun W i o hW ho => ?_, fun W i o hW ho => ?_, fun W hW => lenO (hp.more hW).ar hp.sim, fun W hW => (hN W hW).row, fun i o ho => ?_, (hN w (Below.refl _ _)).most⟩
  · obtain ⟨n, hn, sm⟩ := hp.sim.get ho
    have ht := hp.sim.tell hn ho
    refine (node_in (hp.more hW).ar i n hn).mono fun e w' ⟨ao, cp, h1, h2, h3, _⟩ => ?_
    obtain ⟨a', c', e1, hin⟩ := ownsRow_attrs h2
    simp at e1
    obtain ⟨rfl, rfl⟩ := e1
    have ha : n.attrs = o.attrs := by rw [ht]; rfl
    refine ⟨ao, cp, ?_, ha ▸ hin, h3⟩
    rw [h1, ht]
    rfl
  · obtain ⟨g', cap', rs, h, rfl, _⟩ := (hp.more hW).rf
    obtain ⟨r, hr, rfl⟩ := osOf_back ho
    refine (refNode_in h hp.sim i r hr).mono fun e w' ⟨na, nc, h1, h2, h3⟩ => ?_
    exact ⟨na, nc, h1, h2, h3⟩
  · obtain ⟨n, hn, sm⟩ := hp.sim.get ho
    have ht := hp.sim.tell hn ho
    obtain ⟨bS, g, cap, h, _⟩ := hp.ar
    have := h.few i n hn
    rw [ht] at this
    exact this

section
variable {w : World} {bA bR g cap : Nat} {os : List OneM}
set_option maxRecDepth 100000 in
set_option maxHeartbeats 8000000 in
theorem same2_any (hQ : TellQ w bA bR os g cap) :
    Calls Tryz.prog 10 #[.pointer (some ⟨bA, 0, none⟩), .pointer (some ⟨bR, 0, none⟩)] w fun e w' => e = .returned (.bool true) ∧ Below w.heap.size w w' := by
  have HQ := hide hQ
  have hmost := hQ.most
  obtain ⟨n, hn⟩ : ∃ n, os.length = n := ⟨_, rfl⟩
  rw [hn] at hmost
  have HN := hide hn
  clear hQ hn
  go_enter Tryz.func10, Tryz.ntmps10
  go_wp2
  go_loopg [5] n (fun k s wx => ∃ j : Nat, s = .int .i64 j ∧ j + k = n ∧ Below w.heap.size w wx)
  case atStart => exact ⟨0, rfl, by omega, Below.refl _ _⟩
  case round =>
    obtain ⟨j, rfl, hjk, hb⟩ := hrel
    have r0 := (unhide HQ).row _ hb
    rw [unhide HN] at r0
    have HB := hide hb
    clear hb
    by_cases hj : j < n
    · have hjz : (j : Int) < (n : Int) := by omega
      obtain ⟨o, ho⟩ : ∃ o, os[j]? = some o := ⟨_, List.getElem?_eq_getElem (by rw [unhide HN]; exact hj)⟩
      have HO := hide ho
      have HF := hide ((unhide HQ).few j o ho)
      clear ho
      obtain ⟨t, ht⟩ : ∃ t, tellN os j o = t := ⟨_, rfl⟩
      have HT := hide ht
      have hat : o.attrs = t.attrs := by rw [← ht]; rfl
      have HAT := hide hat
      clear ht hat
      go_wp2_with (first
        | (go_at_call 12; refine ((unhide HQ).prog _ j o (unhide HB) (unhide HO)).mono ?_; rw [unhide HT]; rintro e w1 ⟨ax, cx, rfl, hax, hb1⟩; have HB1 := hide ((unhide HB).trans (hb1.mono (unhide HB).size)); have HAX := hide hax; clear hax hb1; unfold toldV))
      have hb1' := (unhide HB1).alloc (unhide HB1).size (.cells #[.int .i64 t.kind, .int .i64 t.space, .string t.name, .slice ax t.attrs.length cx, .string t.data, .string t.system, .int .i64 t.parent, .int .i64 t.first, .int .i64 t.last, .int .i64 t.prev, .int .i64 t.next, .int .i64 t.inner] 36)
      refine ((unhide HQ).ref _ j o hb1' (unhide HO)).mono ?_
      rw [unhide HT]
      rintro e w2 ⟨ay, cy, rfl, hay, hb2⟩
      have x0 := (bcell hb2).1 w1.heap.size 0 (by simp)
      have x2 := (bcell hb2).1 w1.heap.size 2 (by simp)
      have x3 := (bcell hb2).1 w1.heap.size 3 (by simp)
      have x4 := (bcell hb2).1 w1.heap.size 4 (by simp)
      have x6 := (bcell hb2).1 w1.heap.size 6 (by simp)
      have x7 := (bcell hb2).1 w1.heap.size 7 (by simp)
      have x10 := (bcell hb2).1 w1.heap.size 10 (by simp)
      simp at x0 x2 x3 x4 x6 x7 x10
      have hl12 : w1.heap.size < w2.heap.size := Nat.lt_of_lt_of_le (by simp) hb2.size
      have hlne : ¬ w1.heap.size = w2.heap.size := by omega
      have HB2 := hide (hb1'.trans (hb2.mono hb1'.size))
      have HAX2 : Hid (AttrsIn w2 ax t.attrs) := hide (by rw [← unhide HAT]; exact ((unhide HAX).below ((Below.refl _ _).alloc (Nat.le_refl _) _)).below hb2)
      have HAY : Hid (AttrsIn w2 ay t.attrs) := hide (by rw [← unhide HAT]; exact hay)
      have HF2 : Hid (t.attrs.length ≤ 1024) := hide (by rw [← unhide HAT]; exact unhide HF)
      clear hb1' hb2 hay
      unfold toldV
      go_wp2
      obtain ⟨gk0, hgk0⟩ : ∃ x, x = gk := ⟨_, rfl⟩
      have HGK := hide hgk0
      have HJK := hide hjk
      clear hgk0 hjk
      go_loopg [10] t.attrs.length (fun k s wx => ∃ m : Nat, s = .int .i64 m ∧ m + k = t.attrs.length ∧ Below w.heap.size w wx ∧ wx.cell? ⟨w1.heap.size, 3, none⟩ = some (.slice ax t.attrs.length cx) ∧ wx.cell? ⟨w2.heap.size, 3, none⟩ = some (.slice ay t.attrs.length cy) ∧ AttrsIn wx ax t.attrs ∧ AttrsIn wx ay t.attrs)
      case atStart => exact ⟨0, rfl, by omega, (unhide HB2).alloc (unhide HB2).size _, by first | (rw [((Below.refl _ w2).alloc (Nat.le_refl _) _).cell hl12]; exact x3) | exact x3 | simp, by simp, (unhide HAX2).below ((Below.refl _ _).alloc (Nat.le_refl _) _), (unhide HAY).below ((Below.refl _ _).alloc (Nat.le_refl _) _)⟩
      case round =>
        obtain ⟨m, rfl, hmk, hbw, k1, k2, hax, hay⟩ := hrel
        have hfew := unhide HF2
        have HBW := hide hbw
        have HAXW := hide hax
        have HAYW := hide hay
        by_cases hm : m < t.attrs.length
        · have hx : t.attrs[m]? = some t.attrs[m] := List.getElem?_eq_getElem hm
          have hmz : (m : Int) < (t.attrs.length : Int) := by omega
          obtain ⟨ba, oa, rfl, a0, a1, a2, a3⟩ := hax.cells m _ hx
          obtain ⟨bb, ob, rfl, b0, b1, b2, b3⟩ := hay.cells m _ hx
          generalize t.attrs[m] = x at a0 a1 a2 a3 b0 b1 b2 b3 hx
          clear hx hbw hax hay
          go_wp2
          go_quiet (fail)
          go_wp2
          go_roundg (gk - 1)
          case measure => omega
          case rel => exact ⟨m + 1, by go_num, by omega, below_dn (unhide HBW) _, by simpa using k1, by simpa using k2, (unhide HAXW).below (below_dn (Below.refl _ _) _), (unhide HAYW).below (below_dn (Below.refl _ _) _)⟩
        · have hmz : ¬ (m : Int) < (t.attrs.length : Int) := by omega
          clear hbw hax hay
          go_wp2
          go_roundg (gk0 - 1)
          case measure => have := unhide HGK; have := unhide HJK; omega
          case rel => exact ⟨j + 1, by go_num, by have := unhide HGK; have := unhide HJK; omega, unhide HBW⟩
    · have hjz : ¬ (j : Int) < (n : Int) := by omega
      have HL := hide ((unhide HQ).len _ (unhide HB).drew)
      rw [unhide HN] at HL
      have hnn : ((n : Int) == (n : Int)) = true := by simp
      go_wp2_with fail
      go_region_with (go_at_call 34; refine (unhide HL).mono ?_; rintro e w3 ⟨rfl, rfl⟩)
      all_goals go_wp2
      all_goals go_ret
      all_goals first | exact ⟨rfl, (unhide HB).drew⟩ | exact ⟨by simp, (unhide HB).drew⟩ | exact ⟨rfl, unhide HB⟩
end
end Go.Proofs.YtnclnijlpchdnaaGreat

namespace Go.Proofs.YtnclnijlpchdnaaGreat
open Go.RowKit

theorem k0_new : K0 [oneM 0] := by
  intro i hi
  match i, hi with
  | 0, _ => rfl
  | i + 1, hi => simp [kindO] at hi

theorem awake2_any (w : World) : Calls Tryz.prog 13 #[] w fun e w' => e = .returned (.bool true) ∧ Below w.heap.size w w' := by
  have h1 : ∀ W, Calls Tryz.prog 39 #[.string ⟨#[105, 100]⟩] W fun e w' => e = .returned (.bool true) ∧ Below W.heap.size W w' := fun W => by
    have := name_any ⟨#[105, 100]⟩ W (by decide)
    rw [show nameM ⟨#[105, 100]⟩ = true by decide +kernel] at this
    exact this
  have h2 : ∀ W, Calls Tryz.prog 39 #[.string ⟨#[]⟩] W fun e w' => e = .returned (.bool false) ∧ Below W.heap.size W w' := fun W => by
    have := name_any ⟨#[]⟩ W (by decide)
    rw [show nameM ⟨#[]⟩ = false by decide +kernel] at this
    exact this
  have H1 := hide h1
  have H2 := hide h2
  clear h1 h2
  go_enter Tryz.func13, Tryz.ntmps13
  go_wp2_with (first
    | (have _x := unhide HB1; go_at_call 39; refine ((unhide H2) _).mono ?_; rintro e w2 ⟨rfl, hb⟩; have HB2 := hide ((unhide HB1).trans (hb.mono (unhide HB1).size)); clear hb)
    | (go_at_call 39; refine ((unhide H1) _).mono ?_; rintro e w1 ⟨rfl, hb⟩; have HB1 := hide hb; clear hb))
  go_ret
  exact ⟨rfl, unhide HB2⟩

/-- What Node tells, of every number. -/
theorem nodeP {w0 w : World} {bA bR : Nat} {os osR : List OneM} {ns : List NodeM} {F G : Nat → Prop} (hp : Pair w0 w bA bR os osR ns F G) (k : Int) :
    Calls Tryz.prog 12 #[.pointer (some ⟨bA, 0, none⟩), .int .i64 k] w fun e w' => ∃ v0 v1 v6 v7 v8 v9 v10 v11 v2 v4 v5 ao q cp f, e = .returned (.tuple #[.agg #[.int .i64 v0, .int .i64 v1, .string v2, .slice ao q cp, .string v4, .string v5, .int .i64 v6, .int .i64 v7, .int .i64 v8, .int .i64 v9, .int .i64 v10, .int .i64 v11], .int .i64 f]) ∧
      (∀ (i : Nat) o, k = i → os[i]? = some o → f = 0 ∧ v0 = o.kind ∧ v6 = o.up ∧ v10 = (nbr os i o).2) ∧ Below w.heap.size w w' := by
  cases hh : hasO os k with
  | false =>
    refine (node_no hp.ar k (by rw [hp.sim.hasM]; exact hh)).mono fun e w' ⟨h1, h2⟩ => ⟨_, _, _, _, _, _, _, _, _, _, _, _, _, _, _, h1, fun i o e ho => ?_, h2⟩
    subst e
    rw [hasO_of ho] at hh
    cases hh
  | true =>
    obtain ⟨i, o, rfl, ho⟩ := hasO_yes hh
    obtain ⟨n, hn, sm⟩ := hp.sim.get ho
    have ht := hp.sim.tell hn ho
    refine (node_in hp.ar i n hn).mono fun e w' ⟨ao, cp, h1, _, h3, _⟩ => ⟨_, _, _, _, _, _, _, _, _, _, _, _, _, _, _, h1, fun i' o' e ho' => ?_, h3⟩
    obtain rfl : i = i' := by omega
    rw [ho] at ho'; cases ho'
    rw [ht]
    exact ⟨rfl, rfl, rfl, rfl⟩

end Go.Proofs.YtnclnijlpchdnaaGreat

namespace Go.Proofs.YtnclnijlpchdnaaGreat
open Go.RowKit

/-- Which kind may stand ahead of which among the document's children. -/
def ordK (a b : Int) : Prop := ¬ (a = 1 ∧ (b = 1 ∨ b = 4)) ∧ ¬ (a = 4 ∧ b = 4)

structure DocOk (os : List OneM) : Prop where
  root : kindO os 0 = 0
  pair : (kidsO os 0).Pairwise fun x y => ordK (kindO os (x : Nat)) (kindO os (y : Nat))
  text : ∀ x : Nat, x ∈ kidsO os 0 → kindO os x ≠ 2
  doct : ∀ (p : Nat) o, os[p]? = some o → p ≠ 0 → ∀ x ∈ o.kids, kindO os (x : Nat) ≠ 4

theorem kindO_eq {os os' : List OneM} (h : kinds os' = kinds os) (i : Nat) : kindO os' i = kindO os i := by rw [kindO_kinds, kindO_kinds, h]
theorem kids0_of {os : List OneM} {o : OneM} (h : os[0]? = some o) : kidsO os 0 = o.kids := kidsO_of (i := 0) h
theorem kids0_none {os : List OneM} (h : os[0]? = none) : kidsO os 0 = [] := by
  unfold kidsO
  split
  · simp [h]
  · rfl
theorem kinds_len {os os' : List OneM} (h : kinds os' = kinds os) : os'.length = os.length := by
  have := congrArg List.length h
  simpa [kinds] using this

theorem DocOk.sub {os os' : List OneM} (h : DocOk os) (hk : kinds os' = kinds os) (hs : ∀ (i : Nat) o, os[i]? = some o → ∃ o', os'[i]? = some o' ∧ o'.kids.Sublist o.kids) : DocOk os' := by
  have hl := kinds_len hk
  have h0 : (kidsO os' 0).Sublist (kidsO os 0) := by
    cases e : os[0]? with
    | none =>
      have e' : os'[0]? = none := by rw [List.getElem?_eq_none_iff] at e ⊢; omega
      rw [kids0_none e', kids0_none e]
      exact List.Sublist.refl _
    | some o =>
      obtain ⟨o', ho', hs'⟩ := hs 0 o e
      rw [kids0_of ho', kids0_of e]
      exact hs'
  have hkk := kindO_eq hk
  refine ⟨by have := hkk 0; simpa using this.trans (by simpa using h.root), ?_, fun x hx => ?_, fun p o' ho' hp x hx => ?_⟩
  · simp only [hkk]
    exact h.pair.sublist h0
  · rw [hkk]
    exact h.text x (h0.subset hx)
  · rw [hkk]
    have hlt := (List.getElem?_eq_some_iff.1 ho').1
    have e : os[p]? = some os[p] := List.getElem?_eq_getElem (by omega)
    obtain ⟨o2, ho2, hs2⟩ := hs p _ e
    rw [ho'] at ho2; cases ho2
    exact h.doct p _ e hp x (hs2.subset hx)

theorem DocOk.modify {os : List OneM} (h : DocOk os) (i : Nat) (f : OneM → OneM) (hf : ∀ o, (f o).kind = o.kind) (hg : ∀ o, (f o).kids = o.kids) : DocOk (os.modify i f) := by
  refine h.sub (kinds_modify os i f hf) fun j o ho => ?_
  rw [List.getElem?_modify, ho]
  by_cases e : i = j
  · exact ⟨f o, by simp [e], by rw [hg]; exact List.Sublist.refl _⟩
  · exact ⟨o, by simp [e], List.Sublist.refl _⟩

theorem DocOk.unlink {ns : List NodeM} {os : List OneM} (hs : Sim ns os) (h : DocOk os) (c : Int) : DocOk (unlinkR os c) := by
  by_cases hc : hasO os c = true
  · obtain ⟨i, oi, rfl, _⟩ := hasO_yes hc
    refine h.sub (kinds_unlink os i) fun j o ho => ?_
    obtain ⟨o', ho', _, _, _, _, _, hk⟩ := unlinkR_get os i hs j o ho
    exact ⟨o', ho', by rw [hk]; exact List.filter_sublist⟩
  · have e : unlinkR os c = os := by
      have e1 : unlinkE os c = 6 := by rw [unlinkE, if_pos (by simpa using hc)]
      rw [unlinkR, e1, if_neg (by decide)]
    rw [e]; exact h

theorem kindO_app {os : List OneM} (qs : List OneM) {i : Nat} (hi : i < os.length) : kindO (os ++ qs) i = kindO os i := by
  unfold kindO
  rw [Int.toNat_natCast, List.getElem?_append_left hi]

theorem DocOk.app {ns : List NodeM} {os : List OneM} (hs : Sim ns os) (h : DocOk os) (qs : List OneM) (hq : ∀ q ∈ qs, q.kids = []) : DocOk (os ++ qs) := by
  have h0 : 0 < os.length := by
    cases e : os with
    | nil => have := h.root; rw [e] at this; simp [kindO] at this
    | cons a l => simp
  have hlt : ∀ (p : Nat) o, os[p]? = some o → ∀ x ∈ o.kids, x < os.length := fun p o ho x hx => by
    obtain ⟨m, hm, _⟩ := hs.down p o x ho hx
    exact (List.getElem?_eq_some_iff.1 hm).1
  have e0 : os[0]? = some os[0] := List.getElem?_eq_getElem h0
  have e0' : (os ++ qs)[0]? = some os[0] := by rw [List.getElem?_append_left h0]; exact e0
  have hk0 : kidsO (os ++ qs) 0 = kidsO os 0 := by rw [kids0_of e0', kids0_of e0]
  have hin : ∀ x ∈ kidsO os 0, x < os.length := fun x hx => hlt 0 _ e0 x (by rw [← kids0_of e0]; exact hx)
  refine ⟨?_, ?_, fun x hx => ?_, fun p o ho hp x hx => ?_⟩
  · have := kindO_app (os := os) qs h0
    simpa using this.trans (by simpa using h.root)
  · rw [hk0]
    refine h.pair.imp_of_mem fun {x y} hx hy hxy => ?_
    rw [kindO_app qs (hin x hx), kindO_app qs (hin y hy)]
    exact hxy
  · rw [hk0] at hx
    rw [kindO_app qs (hin x hx)]
    exact h.text x hx
  · by_cases hpl : p < os.length
    · rw [List.getElem?_append_left hpl] at ho
      rw [kindO_app qs (hlt p o ho x hx)]
      exact h.doct p o ho hp x hx
    · rw [List.getElem?_append_right (by omega)] at ho
      rw [hq o (List.mem_of_getElem? ho)] at hx
      cases hx

theorem kinds_linkO (os : List OneM) (p c : Nat) (b : Int) : kinds (linkO os p c b) = kinds os := by
  unfold linkO
  rw [kinds_modify, kinds_modify]
  all_goals (intro o; rfl)
theorem insO_mem {l : List Nat} {b : Int} {c x : Nat} (h : x ∈ insO l b c) : x ∈ l ∨ x = c := by
  unfold insO at h
  split at h
  · simpa using h
  · rw [List.mem_flatMap] at h
    obtain ⟨y, hy, hx⟩ := h
    split at hx
    · simp at hx
      rcases hx with rfl | rfl
      · exact .inr rfl
      · exact .inl hy
    · simp at hx
      subst hx
      exact .inl hy

/-- A child put into another node than the document. -/
theorem DocOk.link_else {os : List OneM} (h : DocOk os) {p c : Nat} (b : Int) (hp : p ≠ 0) (hc : kindO os c ≠ 4) : DocOk (linkO os p c b) := by
  have hkk := kindO_eq (kinds_linkO os p c b)
  have h0 : kidsO (linkO os p c b) 0 = kidsO os 0 := by
    have hg := linkO_get os p c b 0
    cases e : os[0]? with
    | none =>
      rw [e] at hg
      rw [kids0_none (by simpa using hg), kids0_none e]
    | some o =>
      rw [e] at hg
      simp only [Option.map_some] at hg
      rw [kids0_of hg, kids0_of e]
      simp [Ne.symm hp]
  refine ⟨by have := hkk 0; simpa using this.trans (by simpa using h.root), ?_, fun x hx => ?_, fun q o ho hq x hx => ?_⟩
  · rw [h0]
    simp only [hkk]
    exact h.pair
  · rw [hkk]; rw [h0] at hx
    exact h.text x hx
  · rw [hkk]
    rw [linkO_get] at ho
    cases e : os[q]? with
    | none => rw [e] at ho; cases ho
    | some o2 =>
      rw [e] at ho
      simp only [Option.map_some, Option.some.injEq] at ho
      subst ho
      by_cases hqp : q = p
      · simp only [hqp, if_true] at hx
        rcases insO_mem hx with hx | rfl
        · exact h.doct q o2 e hq x hx
        · exact hc
      · simp only [hqp, if_false] at hx
        exact h.doct q o2 e hq x hx

theorem ahead_cut {A B : List Nat} {b : Int} (hb : headI B = b) (hA : ∀ x ∈ A, (x : Int) ≠ b) : (A ++ B).takeWhile (fun (x : Nat) => (x : Int) != b) = A ∧ (A ++ B).dropWhile (fun (x : Nat) => (x : Int) != b) = B := by
  induction A with
  | nil =>
    cases B with
    | nil => exact ⟨rfl, rfl⟩
    | cons y B =>
      have : (y : Int) = b := hb
      simp [this]
  | cons x A ih =>
    have hx : ((x : Int) != b) = true := by simpa using hA x (by simp)
    obtain ⟨h1, h2⟩ := ih fun y hy => hA y (by simp [hy])
    constructor
    · rw [List.cons_append, List.takeWhile_cons, hx, if_pos rfl, h1]
    · rw [List.cons_append, List.dropWhile_cons, hx, if_pos rfl, h2]

/-- What may be put into the document there. -/
def FitK (os : List OneM) (c : Nat) (b : Int) : Prop := kindO os c ≠ 2 ∧ (kindO os c = 1 → elemM os b = true) ∧ (kindO os c = 4 → doctM os b = true)

theorem someO_no {os : List OneM} {k : Int} {l : List Nat} (h : someO os k l = false) {x : Nat} (hx : x ∈ l) : kindO os x ≠ k := by
  intro e
  unfold someO at h
  rw [List.any_eq_false] at h
  have := h x hx
  simp [e] at this
theorem someO_false {os : List OneM} {k : Int} {l : List Nat} (h : ∀ x : Nat, x ∈ l → kindO os x ≠ k) : someO os k l = false := by
  unfold someO
  rw [List.any_eq_false]
  intro x hx
  simpa using h x hx

structure Cut (os : List OneM) (b : Int) (A B : List Nat) : Prop where
  all : kidsO os 0 = A ++ B
  head : headI B = b
  not : ∀ x ∈ A, (x : Int) ≠ b

theorem Cut.ahead {os : List OneM} {b : Int} {A B : List Nat} (h : Cut os b A B) : aheadO os b = A ∧ behindO os b = B := by
  unfold aheadO behindO
  rw [h.all]
  exact ahead_cut h.head h.not

/-- A child put into the document. -/
theorem DocOk.link_root {os : List OneM} (h : DocOk os) {c : Nat} {b : Int} {A B : List Nat} {o0 : OneM} (ho : os[0]? = some o0) (hcut : Cut os b A B) (hins : insO o0.kids b c = A ++ c :: B) (hf : FitK os c b) : DocOk (linkO os 0 c b) := by
  have hkk := kindO_eq (kinds_linkO os 0 c b)
  obtain ⟨eA, eB⟩ := hcut.ahead
  have hk0 : kidsO os 0 = o0.kids := kids0_of ho
  have h0 : kidsO (linkO os 0 c b) 0 = A ++ c :: B := by
    have hg := linkO_get os 0 c b 0
    rw [ho] at hg
    simp only [Option.map_some] at hg
    rw [kids0_of hg]
    simp [hins]
  have hpair := h.pair
  rw [hcut.all] at hpair
  rw [List.pairwise_append] at hpair
  obtain ⟨hpA, hpB, hpAB⟩ := hpair
  obtain ⟨f2, f1, f4⟩ := hf
  have hA : ∀ x ∈ A, ordK (kindO os (x : Nat)) (kindO os c) := fun x hx => by
    have hin : x ∈ kidsO os 0 := by rw [hcut.all]; exact List.mem_append_left _ hx
    constructor
    · rintro ⟨e1, e2 | e2⟩
      · have := f1 e2
        unfold elemM at this
        simp only [Bool.and_eq_true, Bool.not_eq_true'] at this
        exact someO_no this.1 hin e1
      · have := f4 e2
        unfold doctM at this
        simp only [Bool.and_eq_true, Bool.not_eq_true', eA] at this
        exact someO_no this.2 hx e1
    · rintro ⟨e1, e2⟩
      have := f4 e2
      unfold doctM at this
      simp only [Bool.and_eq_true, Bool.not_eq_true'] at this
      exact someO_no this.1 hin e1
  have hB : ∀ y ∈ B, ordK (kindO os c) (kindO os (y : Nat)) := fun y hy => by
    have hin : y ∈ kidsO os 0 := by rw [hcut.all]; exact List.mem_append_right _ hy
    constructor
    · rintro ⟨e1, e2⟩
      have := f1 e1
      unfold elemM at this
      simp only [Bool.and_eq_true, Bool.not_eq_true', eB] at this
      rcases e2 with e2 | e2
      · exact someO_no this.1 hin e2
      · exact someO_no this.2 hy e2
    · rintro ⟨e1, e2⟩
      have := f4 e1
      unfold doctM at this
      simp only [Bool.and_eq_true, Bool.not_eq_true'] at this
      exact someO_no this.1 hin e2
  refine ⟨by have := hkk 0; simpa using this.trans (by simpa using h.root), ?_, fun x hx => ?_, fun q o hq hq0 x hx => ?_⟩
  · rw [h0]
    simp only [hkk]
    rw [List.pairwise_append, List.pairwise_cons]
    refine ⟨hpA, ⟨hB, hpB⟩, fun a ha y hy => ?_⟩
    rcases List.mem_cons.1 hy with rfl | hy
    · exact hA a ha
    · exact hpAB a ha y hy
  · rw [hkk]
    rw [h0] at hx
    rcases List.mem_append.1 hx with hx | hx
    · exact h.text x (by rw [hcut.all]; exact List.mem_append_left _ hx)
    · rcases List.mem_cons.1 hx with rfl | hx
      · exact f2
      · exact h.text x (by rw [hcut.all]; exact List.mem_append_right _ hx)
  · rw [hkk]
    rw [linkO_get] at hq
    cases e : os[q]? with
    | none => rw [e] at hq; cases hq
    | some o2 =>
      rw [e] at hq
      simp only [Option.map_some, Option.some.injEq] at hq
      subst hq
      simp only [hq0, if_false] at hx
      exact h.doct q o2 e hq0 x hx

/-- What a link that is made says. -/
structure LinkOk (os : List OneM) (p c : Nat) (b : Int) : Prop where
  hp : hasO os p = true
  hc : hasO os c = true
  par : parentM (kindO os p) = true
  up : upIO os c = -1
  hb : b = -1 ∨ (hasO os b = true ∧ upIO os b = p)
theorem linkOk {os : List OneM} {p c : Nat} {b : Int} (h : linkE os p c b = 0) : LinkOk os p c b := by
  unfold linkE at h
  split at h
  · cases h
  · rename_i h1
    simp only [Bool.not_eq_false, Bool.and_eq_true, Bool.or_eq_true, beq_iff_eq] at h1
    split at h
    · cases h
    · rename_i h2
      split at h
      · cases h
      · rename_i h3
        split at h
        · cases h
        · rename_i h4
          refine ⟨h1.1.1, h1.1.2, ?_, Decidable.byContradiction fun e => h3 (.inl e), ?_⟩
          · cases e : parentM (kindO os p) with
            | true => rfl
            | false => exact absurd (.inl e) h2
          · rcases h1.2 with e | e
            · exact .inl e
            · by_cases e1 : b = -1
              · exact .inl e1
              · exact .inr ⟨e, Decidable.byContradiction fun e2 => h4 ⟨e1, e2⟩⟩

/-- Where a link puts a child of the document. -/
theorem root_cut {ns : List NodeM} {os : List OneM} (hs : Sim ns os) {c : Nat} {b : Int} (h : LinkOk os 0 c b) :
    ∃ o0 A B, os[0]? = some o0 ∧ Cut os b A B ∧ insO o0.kids b c = A ++ c :: B ∧ ((c : Int) ≠ b) := by
  obtain ⟨i, o0, e, ho⟩ := hasO_yes h.hp
  obtain rfl : i = 0 := by omega
  have hnd := (hs.kids 0 o0 ho).nodup
  have hcb : (c : Int) ≠ b := fun e => by
    rcases h.hb with e1 | ⟨_, e1⟩
    · omega
    · rw [← e, h.up] at e1; simp at e1
  have hmem : b = -1 ∨ ∃ x ∈ o0.kids, b = (x : Int) := by
    rcases h.hb with e | ⟨hb, hu⟩
    · exact .inl e
    · obtain ⟨x, ox, rfl, hox⟩ := hasO_yes hb
      rw [upIO_of hox] at hu
      rcases hs.up x ox hox with e' | ⟨q, m, e', hqm, hi⟩
      · simp at hu; omega
      · obtain rfl : q = 0 := by simp at hu; omega
        rw [ho] at hqm; cases hqm
        exact .inr ⟨x, hi, rfl⟩
  obtain ⟨A, B, hAB, hins, hhead⟩ := insO_cut hnd hmem c
  refine ⟨o0, A, B, ho, ⟨by rw [kids0_of ho]; exact hAB, hhead, fun x hx e => ?_⟩, hins, hcb⟩
  cases B with
  | nil => simp [headI] at hhead; omega
  | cons y B =>
    have hy : (y : Int) = b := hhead
    rw [hAB, List.nodup_append] at hnd
    exact hnd.2.2 x hx y (by simp) (by omega)

theorem DocOk.link {ns : List NodeM} {os : List OneM} (hs : Sim ns os) (h : DocOk os) {p c : Nat} {b : Int} (hf : p = 0 → FitK os c b) (h4 : p ≠ 0 → kindO os c ≠ 4) : DocOk (linkR os p c b) := by
  unfold linkR
  split
  · rename_i e
    have hok := linkOk e
    simp only [Int.toNat_natCast]
    by_cases hp : p = 0
    · subst hp
      obtain ⟨o0, A, B, ho, hcut, hins, _⟩ := root_cut hs hok
      exact h.link_root ho hcut hins (hf rfl)
    · exact h.link_else b hp (h4 hp)
  · exact h

theorem someO_kinds {os os' : List OneM} (h : kinds os' = kinds os) (k : Int) (l : List Nat) : someO os' k l = someO os k l := by
  unfold someO
  simp only [kindO_eq h]
theorem cntO_kinds {os os' : List OneM} (h : kinds os' = kinds os) (l : List Nat) (kd : List Int) : cntO os' l kd = cntO os l kd := by
  unfold cntO
  simp only [kindO_eq h]

theorem drop_filter {b : Int} {c : Nat} : ∀ {l : List Nat} {x : Nat}, x ∈ (l.filter (· ≠ c)).dropWhile (fun (y : Nat) => (y : Int) != b) → x ∈ l.dropWhile (fun (y : Nat) => (y : Int) != b)
  | [], x, h => h
  | y :: l, x, h => by
    rw [List.dropWhile_cons]
    by_cases hy : (y : Int) = b
    · have : ((y : Int) != b) = false := by simpa using hy
      rw [this, if_neg (by simp)]
      have h1 := (List.dropWhile_sublist _).subset h
      exact (List.filter_sublist).subset h1
    · have : ((y : Int) != b) = true := by simpa using hy
      rw [this, if_pos rfl]
      rw [List.filter_cons] at h
      split at h
      · rw [List.dropWhile_cons, this, if_pos rfl] at h
        exact drop_filter h
      · exact drop_filter h

theorem unlink_kids0 {ns : List NodeM} {os : List OneM} (hs : Sim ns os) (c : Nat) : kidsO (unlinkR os c) 0 = (kidsO os 0).filter (· ≠ c) := by
  cases e : os[0]? with
  | none =>
    have hl := unlinkR_len os c
    have e' : (unlinkR os c)[0]? = none := by rw [List.getElem?_eq_none_iff] at e ⊢; omega
    rw [kids0_none e', kids0_none e]
    rfl
  | some o =>
    obtain ⟨o', ho', _, _, _, _, _, hk⟩ := unlinkR_get os c hs 0 o e
    rw [kids0_of ho', kids0_of e, hk]

theorem elemM_unlink {ns : List NodeM} {os : List OneM} (hs : Sim ns os) {b : Int} (h : elemM os b = true) (c : Nat) : elemM (unlinkR os c) b = true := by
  unfold elemM at h ⊢
  simp only [Bool.and_eq_true, Bool.not_eq_true'] at h ⊢
  have hk := kinds_unlink os c
  rw [someO_kinds hk, someO_kinds hk]
  refine ⟨someO_false fun x hx => ?_, someO_false fun x hx => ?_⟩
  · rw [unlink_kids0 hs] at hx
    exact someO_no h.1 ((List.filter_sublist).subset hx)
  · unfold behindO at hx
    rw [unlink_kids0 hs] at hx
    exact someO_no h.2 (drop_filter hx)

theorem elemM_link {ns : List NodeM} {os : List OneM} (hs : Sim ns os) {c : Nat} {b : Int} (h : elemM os b = true) (h1 : kindO os c ≠ 1) : elemM (linkR os (0 : Nat) c b) b = true := by
  unfold linkR
  split
  · rename_i e
    have hok := linkOk e
    simp only [Int.toNat_natCast]
    obtain ⟨o0, A, B, ho, hcut, hins, hcb⟩ := root_cut hs hok
    obtain ⟨eA, eB⟩ := hcut.ahead
    have hk := kinds_linkO os 0 c b
    have h0 : kidsO (linkO os 0 c b) 0 = A ++ c :: B := by
      have hg := linkO_get os 0 c b 0
      rw [ho] at hg
      simp only [Option.map_some] at hg
      rw [kids0_of hg]
      simp [hins]
    have hc2 : Cut (linkO os 0 c b) b (A ++ [c]) B := ⟨by rw [h0]; simp, hcut.head, fun x hx => by
      rcases List.mem_append.1 hx with hx | hx
      · exact hcut.not x hx
      · simp at hx; subst hx; exact hcb⟩
    unfold elemM at h ⊢
    simp only [Bool.and_eq_true, Bool.not_eq_true'] at h ⊢
    rw [someO_kinds hk, someO_kinds hk, hc2.ahead.2, ← eB]
    refine ⟨someO_false fun x hx => ?_, h.2⟩
    rw [h0] at hx
    rcases List.mem_append.1 hx with hx | hx
    · exact someO_no h.1 (by rw [hcut.all]; exact List.mem_append_left _ hx)
    · rcases List.mem_cons.1 hx with rfl | hx
      · exact h1
      · exact someO_no h.1 (by rw [hcut.all]; exact List.mem_append_right _ hx)
  · exact h

/-- Children of a fragment, put in one by one. -/
theorem DocOk.puts {p : Nat} {b : Int} : ∀ (cs : List Nat) {os : List OneM} {ns : List NodeM}, Sim ns os → DocOk os → (∀ c ∈ cs, kindO os (c : Nat) ≠ 4) →
    (p = 0 → (∀ c ∈ cs, kindO os (c : Nat) ≠ 2) ∧ (cntO os cs [1] = 0 ∨ (cntO os cs [1] = 1 ∧ elemM os b = true))) → DocOk (cs.foldl (putO p b) os)
  | [], os, ns, _, h, _, _ => h
  | c :: cs, os, ns, hs, h, h4, hp => by
    rw [List.foldl_cons]
    obtain ⟨ms, hms⟩ := simR_unlink hs (c : Int)
    obtain ⟨ms2, hms2⟩ := simR_link hms (p : Int) (c : Int) b
    have hku := kinds_unlink os c
    have hkl := kinds_link (unlinkR os c) p c b
    have hk : kinds (putO p b os c) = kinds os := by unfold putO; rw [hkl, hku]
    have hc1 : cntO os (c :: cs) [1] = (if kindO os c = 1 then 1 else 0) + cntO os cs [1] := by
      have e := cntO_app os [c] cs [1]
      rw [List.singleton_append] at e
      rw [e, cntO_one]
      by_cases h1 : kindO os c = 1
      · simp [h1]
      · simp [h1]
    have hu := DocOk.unlink hs h c
    have hput : DocOk (putO p b os c) := by
      unfold putO
      refine DocOk.link hms hu (fun e => ?_) (fun _ => by rw [kindO_eq hku]; exact h4 c (by simp))
      obtain ⟨g2, g1⟩ := hp e
      refine ⟨by rw [kindO_eq hku]; exact g2 c (by simp), fun e1 => ?_, fun e4 => absurd (by rw [← kindO_eq hku]; exact e4) (h4 c (by simp))⟩
      rw [kindO_eq hku] at e1
      rw [hc1, if_pos e1] at g1
      exact elemM_unlink hs (g1.resolve_left (by omega)).2 c
    refine DocOk.puts cs hms2 hput (fun x hx => ?_) (fun e => ?_)
    · rw [kindO_eq hk]
      exact h4 x (by simp [hx])
    · obtain ⟨g2, g1⟩ := hp e
      refine ⟨fun x hx => by rw [kindO_eq hk]; exact g2 x (by simp [hx]), ?_⟩
      rw [cntO_kinds hk]
      rw [hc1] at g1
      by_cases h1 : kindO os c = 1
      · rw [if_pos h1] at g1
        exact .inl (by omega)
      · rw [if_neg h1, Nat.zero_add] at g1
        rcases g1 with g | ⟨g, ge⟩
        · exact .inl g
        · subst e
          exact .inr ⟨g, elemM_link hms (elemM_unlink hs ge c) (by rw [kindO_eq hku]; exact h1)⟩

theorem in_kids0 {ns : List NodeM} {os : List OneM} (hs : Sim ns os) {i : Nat} (hi : hasO os i = true) (hu : upIO os i = 0) : i ∈ kidsO os 0 := by
  obtain ⟨i', oi, e, hoi⟩ := hasO_yes hi
  obtain rfl : i' = i := by omega
  rw [upIO_of hoi] at hu
  rcases hs.up i' oi hoi with e | ⟨q, m, e, hq, hin⟩
  · omega
  · obtain rfl : q = 0 := by omega
    rw [kids0_of hq]
    exact hin

theorem DocOk.ins {ns : List NodeM} {os : List OneM} (hs : Sim ns os) (h : DocOk os) (id pa b : Int) : DocOk (insR os id pa b) := by
  unfold insR
  split
  case isFalse => exact h
  rename_i hm
  obtain ⟨i, p, rfl, rfl, hok⟩ := mayOk hm
  have hfit := hok.fits
  unfold comersO
  obtain ⟨i', oi, e, hoi⟩ := hasO_yes hok.hi
  obtain rfl : i' = i := by omega
  by_cases h5 : kindO os i' = 5
  · rw [if_pos h5]
    have hi0 : i' ≠ 0 := fun e => by
      subst e
      have := h.root
      rw [show ((0 : Nat) : Int) = 0 from rfl] at h5
      rw [h5] at this; cases this
    have hbi : b ≠ (i' : Int) := fun e => by
      have hu := hs.alone i' oi hoi (.inr (by rw [← kindO_of hoi]; exact h5))
      rcases hok.hb with e1 | ⟨_, e1⟩
      · omega
      · rw [e, upIO_of hoi, hu] at e1; omega
    have hib : insB os i' b = b := by rw [insB, if_neg hbi]
    rw [hib, kidsO_of hoi]
    refine DocOk.puts _ hs h (fun c hc => h.doct i' oi hoi hi0 c hc) (fun hp => ?_)
    subst hp
    unfold fitsO at hfit
    rw [if_pos (by simp), fitsDoc_eq] at hfit
    unfold documentM at hfit
    rw [if_pos h5, h5, kidsO_of hoi] at hfit
    simp only [Bool.and_eq_true] at hfit
    have hd := hfit.2
    by_cases h2 : someO os 2 oi.kids = true
    · rw [if_pos h2] at hd; cases hd
    · rw [if_neg h2] at hd
      refine ⟨fun c hc => someO_no (by simpa using h2) hc, ?_⟩
      simp only [Bool.or_eq_true, Bool.and_eq_true, beq_iff_eq] at hd
      exact hd
  · rw [if_neg h5]
    simp only [Int.toNat_natCast, List.foldl_cons, List.foldl_nil]
    unfold putO
    obtain ⟨ms, hms⟩ := simR_unlink hs (i' : Int)
    have hku := kinds_unlink os i'
    have hu := DocOk.unlink hs h i'
    refine DocOk.link hms hu (fun hp => ?_) (fun hp => ?_)
    · subst hp
      unfold fitsO at hfit
      rw [if_pos (by simp), fitsDoc_eq] at hfit
      unfold documentM at hfit
      rw [if_neg h5] at hfit
      simp only [Bool.and_eq_true, bne_iff_ne, ne_eq] at hfit
      obtain ⟨g2, gd⟩ := hfit
      have hb0 : b = (i' : Int) → i' ∈ kidsO os 0 := fun e => by
        rcases hok.hb with e1 | ⟨_, e1⟩
        · omega
        · exact in_kids0 hs hok.hi (by rw [← e]; exact e1)
      refine ⟨by rw [kindO_eq hku]; exact g2, fun e1 => ?_, fun e4 => ?_⟩
      · rw [kindO_eq hku] at e1
        rw [if_pos e1] at gd
        have hno : ¬ i' ∈ kidsO os 0 := fun hx => by
          unfold elemM at gd
          simp only [Bool.and_eq_true, Bool.not_eq_true'] at gd
          exact someO_no gd.1 hx e1
        rw [insB, if_neg fun e => hno (hb0 e)]
        exact elemM_unlink hs gd i'
      · rw [kindO_eq hku] at e4
        rw [if_neg (by omega), if_pos e4] at gd
        have hno : ¬ i' ∈ kidsO os 0 := fun hx => by
          unfold doctM at gd
          simp only [Bool.and_eq_true, Bool.not_eq_true'] at gd
          exact someO_no gd.1 hx e4
        rw [insB, if_neg fun e => hno (hb0 e)]
        have hk0 : kidsO (unlinkR os i') 0 = kidsO os 0 := by
          rw [unlink_kids0 hs, List.filter_eq_self]
          intro x hx
          have : x ≠ i' := fun e => hno (e ▸ hx)
          simpa using this
        unfold doctM aheadO at gd ⊢
        rw [hk0, someO_kinds hku, someO_kinds hku]
        exact gd
    · rw [kindO_eq hku]
      rw [fits_else hp] at hfit
      simp only [Bool.and_eq_true, bne_iff_ne, ne_eq] at hfit
      exact hfit.2

theorem DocOk.add {ns : List NodeM} {os : List OneM} (hs : Sim ns os) (h : DocOk os) (q : OneM) (hq : q.kids = []) : DocOk (addO os q).1 := by
  unfold addO
  split
  · exact h.app hs [q] (by simp [hq])
  · exact h
theorem DocOk.elem {ns : List NodeM} {os : List OneM} (hs : Sim ns os) (h : DocOk os) (s : ByteArray) : DocOk (elemO os 0 s []).1 := by
  unfold elemO
  repeat' split
  all_goals first
    | exact h
    | exact h.app hs _ (by simp [elemQ, oneM])
    | exact h.add hs _ rfl
theorem DocOk.data {ns : List NodeM} {os : List OneM} (hs : Sim ns os) (h : DocOk os) (k : Int) (s : ByteArray) : DocOk (dataO os k s).1 := by
  unfold dataO
  split
  · exact h
  · exact h.add hs _ rfl

theorem elem_new {os : List OneM} {s : ByteArray} (h : (elemO os 0 s []).2.2 = 0) : (elemO os 0 s []).2.1 = (os.length : Int) ∧ ∃ q rest, (elemO os 0 s []).1 = os ++ q :: rest ∧ q.kind = 1 ∧ ∀ r ∈ q :: rest, r.kids = [] := by
  unfold elemO addO at h ⊢
  repeat' split at h
  all_goals first
    | cases h
    | skip
  all_goals simp_all [elemQ, oneM]
  all_goals exact ⟨_, _, ⟨rfl, rfl⟩, rfl, rfl, by simp⟩

theorem DocOk.addElem {ns : List NodeM} {os : List OneM} (hs : Sim ns os) (h : DocOk os) (s : ByteArray) (p : Int) : DocOk (addElemO os s p).1 := by
  unfold addElemO
  split
  · exact h
  rename_i hh
  split
  · exact h
  split
  · exact h
  rename_i hc
  split
  · exact h
  rename_i he
  have he' : (elemO os 0 (lowS s) []).2.2 = 0 := Decidable.byContradiction he
  obtain ⟨hid, q, rest, hos, hq1, hk⟩ := elem_new he'
  show DocOk (linkR (elemO os 0 (lowS s) []).1 p (elemO os 0 (lowS s) []).2.1 (-1))
  have h1 := h.elem hs (lowS s)
  rw [hos] at h1 ⊢
  rw [hid]
  obtain ⟨pn, op, rfl, hop⟩ := hasO_yes (k := p) (by simpa using hh)
  have hkc : kindO (os ++ q :: rest) (os.length : Nat) = 1 := by
    unfold kindO
    simp [hq1]
  unfold linkR
  split
  case isFalse => exact h1
  simp only [Int.toNat_natCast]
  by_cases hp : pn = 0
  · subst hp
    have hlt := (List.getElem?_eq_some_iff.1 hop).1
    have e0' : (os ++ q :: rest)[0]? = some op := by rw [List.getElem?_append_left hlt]; exact hop
    have hcut : Cut (os ++ q :: rest) (-1) op.kids [] := ⟨by rw [kids0_of e0']; simp, rfl, fun x _ => by omega⟩
    refine h1.link_root e0' hcut (by simp [insO]) ⟨by rw [hkc]; decide, fun _ => ?_, fun e => by rw [hkc] at e; cases e⟩
    have h0 : cntO os (kidsO os 0) [1] = 0 := by
      have : ¬ 0 < cntO os (kidsO os 0) [1] := fun e => hc (.inr ⟨rfl, e⟩)
      omega
    have h0' := cnt_one0 os (kidsO os 0) 1
    rw [h0, kids0_of hop] at h0'
    unfold elemM
    rw [hcut.ahead.2, kids0_of e0']
    have : someO (os ++ q :: rest) 1 op.kids = false := someO_false fun x hx => by
      obtain ⟨m, hm, _⟩ := hs.down 0 op x hop hx
      rw [kindO_app _ (List.getElem?_eq_some_iff.1 hm).1]
      exact someO_no (by simpa using h0'.symm) hx
    rw [this]
    rfl
  · exact h1.link_else _ hp (by rw [hkc]; decide)

theorem DocOk.addText {ns : List NodeM} {os : List OneM} (hs : Sim ns os) (h : DocOk os) (s : ByteArray) (p : Int) : DocOk (addTextO os s p).1 := by
  unfold addTextO
  repeat' split
  all_goals first
    | exact h
    | skip
  rename_i hh _ _ hc
  obtain ⟨pn, op, rfl, hop⟩ := hasO_yes (k := p) (by simpa using hh)
  show DocOk (appO os ((pn : Int).toNat) (dataQ 2 s))
  unfold appO
  rw [Int.toNat_natCast]
  refine (h.app hs [dataQ 2 s] (by simp [dataQ, oneM])).link_else _ (fun e => hc (.inl (by omega))) ?_
  unfold kindO
  simp [dataQ, oneM]

theorem docOk_step {ns : List NodeM} {os : List OneM} (hs : Sim ns os) (h : DocOk os) (o : OpE) : DocOk (stepE os o) := by
  unfold stepE
  split
  · unfold rawR
    split
    · exact h.elem hs _
    · split
      · exact h.data hs 2 _
      · split
        · exact h.data hs 3 _
        · split
          · unfold docO
            split
            · exact h
            · exact h.add hs _ rfl
          · exact h.add hs _ rfl
  · split
    · exact h.ins hs _ _ _
    · split
      · exact h.unlink hs _
      · split
        · exact h.addText hs _ _
        · split
          · exact h.addElem hs _ _
          · split
            · unfold edSetR setAttrR
              repeat' split
              all_goals first | exact h | exact h.modify _ _ (fun _ => rfl) (fun _ => rfl)
            · split
              · unfold edDelR delAttrR
                repeat' split
                all_goals first | exact h | exact h.modify _ _ (fun _ => rfl) (fun _ => rfl)
              · unfold setDataR
                split
                all_goals first | exact h | exact h.modify _ _ (fun _ => rfl) (fun _ => rfl)

theorem docOk_new : DocOk [oneM 0] :=
  ⟨rfl, List.Pairwise.nil, fun x hx => by simp [kidsO, hasO, oneM] at hx, fun p o ho hp x hx => by
    match p, hp, ho with
    | p + 1, _, ho => simp at ho⟩

theorem filter_one {P : Nat → Bool} {R : Nat → Nat → Prop} {l : List Nat} (h : l.Pairwise R) (hR : ∀ x y, R x y → ¬ (P x = true ∧ P y = true)) : (l.filter P).length ≤ 1 := by
  have hf := h.sublist (List.filter_sublist (p := P))
  match e : l.filter P, hf with
  | [], _ => simp
  | [a], _ => simp
  | a :: b :: t, hf =>
    have ha : P a = true := (List.mem_filter.1 (e ▸ List.mem_cons_self : a ∈ l.filter P)).2
    have hb : P b = true := (List.mem_filter.1 (e ▸ List.mem_cons_of_mem _ List.mem_cons_self : b ∈ l.filter P)).2
    rw [List.pairwise_cons] at hf
    exact absurd ⟨ha, hb⟩ (hR a b (hf.1 b (by simp)))
theorem DocOk.ones {os : List OneM} (h : DocOk os) : cntO os (kidsO os 0) [1] ≤ 1 := by
  refine filter_one h.pair fun x y hxy ⟨e1, e2⟩ => hxy.1 ?_
  simp at e1 e2
  exact ⟨e1, .inl e2⟩
theorem DocOk.fours {os : List OneM} (h : DocOk os) : cntO os (kidsO os 0) [4] ≤ 1 := by
  refine filter_one h.pair fun x y hxy ⟨e1, e2⟩ => hxy.2 ?_
  simp at e1 e2
  exact ⟨e1, e2⟩
theorem DocOk.first {os : List OneM} (h : DocOk os) {j x : Nat} (hj : (kidsO os 0)[j]? = some x) (h4 : kindO os x = 4) : cntO os ((kidsO os 0).take j) [1] = 0 := by
  obtain ⟨hlt, e⟩ := List.getElem?_eq_some_iff.1 hj
  have hp := h.pair
  rw [← List.take_append_drop j (kidsO os 0), List.drop_eq_getElem_cons hlt, e, List.pairwise_append] at hp
  have := cnt_one0 os ((kidsO os 0).take j) 1
  rw [someO_false (fun y hy ey => (hp.2.2 y hy x (by simp)).1 ⟨ey, .inr h4⟩)] at this
  simpa using this
end Go.Proofs.YtnclnijlpchdnaaGreat

namespace Go.Proofs.YtnclnijlpchdnaaGreat
open Go.RowKit

/-- What EditDocument asks behind each call of the script. -/
structure DocW (w5 : World) (bA : Nat) (os : List OneM) (ks : List Nat) : Prop where
  kids : Calls Tryz.prog 11 #[.pointer (some ⟨bA, 0, none⟩), .int .i64 0] w5 fun e w' => ∃ a c, e = .returned (.slice a ks.length c) ∧ IntsIn w' a ks ∧ Below w5.heap.size w5 w'
  node : ∀ W (x : Nat), Below w5.heap.size w5 W → x ∈ ks → Calls Tryz.prog 12 #[.pointer (some ⟨bA, 0, none⟩), .int .i64 x] W fun e w' => ∃ v1 v6 v7 v8 v9 v10 v11 v2 v4 v5 ao q cp f, e = .returned (.tuple #[.agg #[.int .i64 (kindO os x), .int .i64 v1, .string v2, .slice ao q cp, .string v4, .string v5, .int .i64 v6, .int .i64 v7, .int .i64 v8, .int .i64 v9, .int .i64 v10, .int .i64 v11], .int .i64 f]) ∧ Below W.heap.size W w'
  few : ks.length ≤ 32768

theorem docW {w0 w : World} {bA bR : Nat} {os : List OneM} (h : Both w0 w bA bR os) : DocW w bA os (kidsO os 0) := by
  obtain ⟨ns, F, G, hp⟩ := h
  refine ⟨(kids_sim hp.ar hp.sim 0).mono fun e w' ⟨v, h1, h2, h3⟩ => ?_, fun W x hW hx => ?_, ?_⟩
  · obtain ⟨a, c, rfl, hin, _⟩ := ownsRow_ints h2
    exact ⟨a, c, h1, hin, h3⟩
  · obtain ⟨o0, ho0⟩ : ∃ o, os[0]? = some o := by
      cases e : os[0]? with
      | none => rw [kids0_none e] at hx; cases hx
      | some o => exact ⟨o, rfl⟩
    rw [kids0_of ho0] at hx
    obtain ⟨m, hm, _⟩ := hp.sim.down 0 o0 x ho0 hx
    refine (nodeP (hp.more hW) x).mono fun e w' ⟨v0, v1, v6, v7, v8, v9, v10, v11, v2, v4, v5, ao, q, cp, f, h1, h2, h3⟩ => ?_
    obtain ⟨_, e0, _⟩ := h2 x m rfl hm
    subst e0
    rw [← kindO_of hm] at h1
    exact ⟨v1, v6, v7, v8, v9, v10, v11, v2, v4, v5, ao, q, cp, f, h1, h3⟩
  · obtain ⟨bS, g, cap, ha, _⟩ := hp.ar
    cases e : os[0]? with
    | none => rw [kids0_none e]; simp
    | some o0 =>
      rw [kids0_of e]
      have hK := hp.sim.kids 0 o0 e
      have h1 : o0.kids.length ≤ ns.length := by
        have := List.Nodup.length_le_of_subset hK.nodup (l₂ := List.range ns.length) (fun x hx => List.mem_range.2 (hK.mem x hx))
        simpa using this
      have := ha.most
      omega

/-- What the children of a document are, by places. -/
structure DocC (ks : List Nat) (kd : Nat → Int) (c1 c4 : Nat → Nat) : Prop where
  one : ∀ m x, ks[m]? = some x → kd x = 1 → c1 (m + 1) = c1 m + 1 ∧ c4 (m + 1) = c4 m
  four : ∀ m x, ks[m]? = some x → kd x = 4 → c1 m = 0 ∧ c1 (m + 1) = c1 m ∧ c4 (m + 1) = c4 m + 1
  other : ∀ m x, ks[m]? = some x → kd x ≠ 1 → kd x ≠ 4 → kd x ≠ 2 ∧ kd x ≠ 5 ∧ c1 (m + 1) = c1 m ∧ c4 (m + 1) = c4 m
  ends : c1 ks.length ≤ 1 ∧ c4 ks.length ≤ 1
  zero : c1 0 = 0 ∧ c4 0 = 0
  le : ∀ m, c1 m ≤ m ∧ c4 m ≤ m

theorem docC {ns : List NodeM} {os : List OneM} (hs : Sim ns os) (h : DocOk os) : DocC (kidsO os 0) (fun x => kindO os (x : Nat)) (fun m => cntO os ((kidsO os 0).take m) [1]) (fun m => cntO os ((kidsO os 0).take m) [4]) := by
  have h5 : ∀ x ∈ kidsO os 0, kindO os (x : Nat) ≠ 5 := fun x hx e5 => by
    cases e : os[0]? with
    | none => rw [kids0_none e] at hx; cases hx
    | some o0 =>
      rw [kids0_of e] at hx
      obtain ⟨m, hm, hu⟩ := hs.down 0 o0 x e hx
      have := hs.alone x m hm (.inr (by rw [← kindO_of hm]; exact e5))
      rw [this] at hu
      simp at hu
  refine ⟨fun m x hx h1 => ?_, fun m x hx h4 => ?_, fun m x hx h1 h4 => ?_, ?_, by simp [cntO], fun m => ⟨?_, ?_⟩⟩
  · simp only [cntO_take hx]
    simp [h1]
  · refine ⟨h.first hx h4, ?_⟩
    simp only [cntO_take hx]
    simp [h4]
  · refine ⟨h.text x (List.mem_of_getElem? hx), h5 x (List.mem_of_getElem? hx), ?_⟩
    simp only [cntO_take hx]
    simp [h1, h4]
  · simp only [List.take_length]
    exact ⟨h.ones, h.fours⟩
  · have := cntO_le os ((kidsO os 0).take m) [1]
    rw [List.length_take] at this
    omega
  · have := cntO_le os ((kidsO os 0).take m) [4]
    rw [List.length_take] at this
    omega

set_option maxRecDepth 100000 in
set_option maxHeartbeats 8000000 in
theorem edoc_walk {w : World} (a : Option Addr) (cap : Nat) (l : List OpE) (hs : ScriptE w a l) (hn : l.length ≤ maxLen) :
    Calls Tryz.prog 4 #[.slice a l.length cap] w fun e w' => e = .returned (.bool true) ∧ Below w.heap.size w w' := by
  have HN := hide (new_any w w.heap.size (Nat.le_refl _))
  have HS := hide hs
  unfold maxLen at hn
  clear hs
  go_enter Tryz.func4, Tryz.ntmps4
  go_wp2_with (first
    | (go_at_call 7; refine (unhide HN).mono ?_; rintro e w1 ⟨F, rfl, h1, hb1, hF⟩; have HNR := hide (refNew_any w1 w.heap.size hb1.size); have H1 := hide h1; have HB1 := hide hb1; have HF := hide hF; clear h1 hb1 hF)
    | (go_at_call 8; refine (unhide HNR).mono ?_; rintro e w2 ⟨bR, g, cp, rfl, h2, hb2, hR, hg⟩; have HBo := hide (both_new (unhide H1) (unhide HB1) (unhide HF) h2 hb2 hR hg); clear h2 hb2 hR hg))
  go_loopg [5] l.length (fun k s wx => ∃ (j : Nat) (os : List OneM), s = .int .i64 j ∧ j + k = l.length ∧ Both w wx (w.heap.size + 3) bR os ∧ K0 os ∧ DocOk os)
  case atStart => exact ⟨0, _, rfl, by omega, unhide HBo, k0_new, docOk_new⟩
  case round =>
    obtain ⟨j, os, rfl, hjk, hB, hk0, hdo⟩ := hrel
    have HB := hide hB
    have HK0 := hide hk0
    have HD := hide hdo
    have HBW := hide (show Below w.heap.size w wr by obtain ⟨ns, F0, G0, hp⟩ := hB; exact hp.below)
    have HSIM := hide (show ∃ ns, Sim ns os by obtain ⟨ns, F0, G0, hp⟩ := hB; exact ⟨ns, hp.sim⟩)
    clear hB hk0 hdo
    by_cases hj : j < l.length
    · have hx : l[j]? = some l[j] := List.getElem?_eq_getElem hj
      generalize l[j] = o at hx
      have hjz : (j : Int) < (l.length : Int) := by omega
      have ht := (unhide HS).text j o hx
      obtain ⟨b, off, rfl, d0, d1, d2, d3, d4, d5, d6⟩ := ((unhide HS).below (unhide HBW)).cells j o hx
      have HPL := hide (eplay_any (unhide HB) (unhide HK0) o ht)
      have HK1 := hide (k0_step (unhide HK0) o)
      have HD1 : Hid (DocOk (stepE os o)) := hide (by obtain ⟨ns, hs⟩ := unhide HSIM; exact docOk_step hs (unhide HD) o)
      unfold OpE.cells at HPL
      generalize stepE os o = os5 at HPL HK1 HD1
      clear hx ht
      go_wp2_with (first
        | (go_at_call 9; refine (unhide HPL).mono ?_; rintro e w5 ⟨rfl, hB5⟩; have HB5 := hide hB5; have HDW := hide (docW hB5); have HDC : Hid (DocC _ _ _ _) := hide (by obtain ⟨ns, F0, G0, hp⟩ := hB5; exact docC hp.sim (unhide HD1)); clear hB5; have hfew := (unhide HDW).few; generalize kidsO os5 0 = ks at HDW HDC hfew; generalize hkd : (fun (x : Nat) => kindO os5 (x : Int)) = kd at HDC; have HKD := hide hkd; clear hkd; generalize (fun m => cntO os5 (ks.take m) [1]) = c1 at HDC; generalize (fun m => cntO os5 (ks.take m) [4]) = c4 at HDC)
        | (go_at_call 11; refine (unhide HDW).kids.mono ?_; rintro e w6 ⟨ka, kc, rfl, hin6, hb6⟩; have HIN := hide hin6; have HB6 := hide hb6; clear hin6 hb6))
      obtain ⟨gk0, hgk0⟩ : ∃ x, x = gk := ⟨_, rfl⟩
      have HGK := hide hgk0
      have HJK := hide hjk
      clear hgk0 hjk
      go_loopg [6, 7, 9] ks.length (fun k s6 s7 s9 wx => ∃ (m e d : Nat), s6 = .int .i64 e ∧ s7 = .int .i64 d ∧ s9 = .int .i64 m ∧ m + k = ks.length ∧ c1 m = e ∧ c4 m = d ∧ Below w6.heap.size w6 wx)
      case atStart => exact ⟨0, 0, 0, rfl, rfl, rfl, by omega, (unhide HDC).zero.1, (unhide HDC).zero.2, Below.refl _ _⟩
      case round =>
        obtain ⟨m, ne, nd, rfl, rfl, rfl, hmk, he, hd, hbw⟩ := hrel
        have hle := (unhide HDC).le m
        rw [he, hd] at hle
        have hle1 := hle.1
        have hle2 := hle.2
        clear hle
        have HE := hide he
        have HDD := hide hd
        have HBX := hide hbw
        by_cases hm : m < ks.length
        · have hx : ks[m]? = some ks[m] := List.getElem?_eq_getElem hm
          generalize ks[m] = x at hx
          have hmz : (m : Int) < (ks.length : Int) := by omega
          obtain ⟨kb, koff, rfl, dk⟩ := (unhide HIN).cells m x hx
          have dkw := (hbw.cell (p := ⟨kb, koff + m, none⟩) (World.block_lt_of_cell? w6 _ dk)).trans dk
          have HND := hide ((unhide HDW).node wr x ((unhide HB6).trans (hbw.mono (unhide HB6).size)) (List.mem_of_getElem? hx))
          have ekd : kindO os5 (x : Int) = kd x := by rw [← unhide HKD]
          rw [ekd] at HND
          have HX := hide hx
          clear hx hbw dk he hd ekd
          by_cases k1 : kd x = 1
          · obtain ⟨q1, q4⟩ := (unhide HDC).one m x (unhide HX) k1
            rw [k1] at HND
            have HQ := hide (And.intro q1 q4)
            clear q1 q4 k1
            go_wp2_with (first
              | (go_at_call 12; refine (unhide HND).mono ?_; rintro e w7 ⟨v1, v6, v7, v8, v9, v10, v11, v2, v4, v5, ao, q, cp, f, rfl, hb7⟩; have HB7 := hide ((unhide HBX).trans (hb7.mono (unhide HBX).size)); clear hb7))
            go_roundg (gk - 1)
            case measure => omega
            case rel => exact ⟨m + 1, ne + 1, nd, by go_num, rfl, by go_num, by omega, by rw [(unhide HQ).1, unhide HE], by rw [(unhide HQ).2, unhide HDD], (unhide HB7).alloc (unhide HB7).size _⟩
          · by_cases k4 : kd x = 4
            · obtain ⟨q0, q1, q4⟩ := (unhide HDC).four m x (unhide HX) k4
              rw [k4] at HND
              obtain rfl : ne = 0 := by rw [← unhide HE]; exact q0
              have HQ := hide (And.intro q1 q4)
              clear q0 q1 q4 k4 k1
              go_wp2_with (first
                | (go_at_call 12; refine (unhide HND).mono ?_; rintro e w7 ⟨v1, v6, v7, v8, v9, v10, v11, v2, v4, v5, ao, q, cp, f, rfl, hb7⟩; have HB7 := hide ((unhide HBX).trans (hb7.mono (unhide HBX).size)); clear hb7))
              go_roundg (gk - 1)
              case measure => omega
              case rel => exact ⟨m + 1, 0, nd + 1, rfl, by go_num, by go_num, by omega, by rw [(unhide HQ).1, unhide HE], by rw [(unhide HQ).2, unhide HDD], (unhide HB7).alloc (unhide HB7).size _⟩
            · obtain ⟨k2, k5, q1, q4⟩ := (unhide HDC).other m x (unhide HX) k1 k4
              generalize kd x = kx at HND k1 k2 k4 k5
              have z1 : (kx == 1) = false := by simpa using k1
              have z2 : (kx == 2) = false := by simpa using k2
              have z4 : (kx == 4) = false := by simpa using k4
              have z5 : (kx == 5) = false := by simpa using k5
              have HQ := hide (And.intro q1 q4)
              clear q1 q4
              go_wp2_with (first
                | (go_at_call 12; refine (unhide HND).mono ?_; rintro e w7 ⟨v1, v6, v7, v8, v9, v10, v11, v2, v4, v5, ao, q, cp, f, rfl, hb7⟩; have HB7 := hide ((unhide HBX).trans (hb7.mono (unhide HBX).size)); clear hb7))
              go_roundg (gk - 1)
              case measure => omega
              case rel => exact ⟨m + 1, ne, nd, rfl, rfl, by go_num, by omega, by rw [(unhide HQ).1, unhide HE], by rw [(unhide HQ).2, unhide HDD], (unhide HB7).alloc (unhide HB7).size _⟩
        · have hmz : ¬ (m : Int) < (ks.length : Int) := by omega
          obtain rfl : m = ks.length := by omega
          obtain ⟨e1, e4⟩ := (unhide HDC).ends
          rw [unhide HE] at e1
          rw [unhide HDD] at e4
          have z1 : ¬ (1 : Int) < (ne : Int) := by omega
          have z4 : ¬ (1 : Int) < (nd : Int) := by omega
          have y1 : decide ((1 : Int) < (ne : Int)) = false := by simpa using z1
          have y4 : decide ((1 : Int) < (nd : Int)) = false := by simpa using z4
          clear hbw he hd
          go_wp2
          go_roundg (gk0 - 1)
          case measure => have := unhide HGK; have := unhide HJK; omega
          case rel => exact ⟨j + 1, os5, by go_num, by have := unhide HGK; have := unhide HJK; omega, (unhide HB5).more ((unhide HB6).trans ((unhide HBX).mono (unhide HB6).size)), unhide HK1, unhide HD1⟩
    · have hjz : ¬ (j : Int) < (l.length : Int) := by omega
      go_wp2_with (first
        | (go_at_call 13; refine (awake2_any _).mono ?_; rintro e w7 ⟨rfl, hb7⟩; have HB7 := hide ((unhide HBW).trans (hb7.mono (unhide HBW).size)); clear hb7))
      go_ret
      exact ⟨rfl, unhide HB7⟩
end Go.Proofs.YtnclnijlpchdnaaGreat

namespace Go.Proofs.YtnclnijlpchdnaaGreat.editDocument
open Go.ChangeShapes Go.WideShapes Go.ChangeAt Go.RowKit
open Go.ChangeMaps (open_string shut_string)

theorem own : ownKnob Tryz.prog.godebug = none := by kernel_rfl
theorem laidOut : laidOutB Tryz.prog = true := by kernel_rfl

set_option maxRecDepth 100000 in
theorem lifted (os : Os) (started : os.Started) (H : Type) (enc : TypeId × Value → H) :
    ReturnsInHanded {} Tryz.checked os 4 .any (Rows.editDocumentSpec.pre6 enc Tryz.prog Tryz.f4 Rows.editDocumentRow.domain false) (Rows.editDocumentSpec.post enc Tryz.prog Tryz.f4 false true false false) := by
  refine returnsInHanded_of_change_sized (C := Tryz.checked) own started (by kernel_rfl) Tryz.func4
    (ChangeSpec.witness6 (enc := enc) (C := Tryz.checked) false ⟨#[], #[.slice none 0 0], []⟩ 8 (by kernel_rfl) (by kernel_rfl) (by kernel_rfl) (by kernel_rfl)) ?_
  intro W base args ds gs before hval0 hW hcnd hsz0 _
  have hval : ∀ (j : Nat) t v, Tryz.f4.params[j]? = some t → args[j]? = some v → Value.okWide Tryz.prog W .any base t v := hval0
  have hW' := hW
  obtain ⟨p, q, hA0, hV, rfl, hfz, hnd⟩ := hW
  have hA : DataW.TrodAll enc Tryz.prog W 0 (fun _ => true) true Tryz.f4.params.toList args.toList ds p := hA0
  rw [Tryz.params4] at hA hval
  obtain ⟨v0, vs0, d0, ds0, p0, q0, hargs, rfl, rfl, h0, r0⟩ := trodAll_cons hA
  obtain ⟨rfl, rfl, rfl⟩ := trodAll_nil r0
  obtain rfl : args = #[v0] := by cases args; simp_all
  obtain ⟨rfl, rfl⟩ := trodVars_none hV
  obtain ⟨a0, len0, cap0, rfl⟩ := okWide_slice Tryz.underlying22 (hval 0 22 v0 rfl rfl)
  have k0 := h0
  have lt0 : ∀ x ∈ p0, x.block < W.heap.size := by obtain ⟨m, hm⟩ := k0; exact DataW.trod_lt m _ _ _ hm
  obtain ⟨l, rfl, hl, hn⟩ := scriptE_open h0
  clear hA0 hval0
  refine (edoc_walk a0 cap0 l hl hn).mono fun e W' ⟨he, bel⟩ => ?_
  subst he
  exact ⟨_, rfl, _, _, _, [], _, [], hW', trodAll_mk1 (shut_bool Tryz.underlying4 _), (trodAll_cons_mk (Below.trod laidOut (by kernel_rfl) (of_decide_eq_true (by kernel_rfl)) k0 bel lt0) trodAll_mk0), rfl, bel.frame _, fun h => by cases h⟩

theorem over : Rows.editDocumentRow.holds Tryz.pinned (OpenSpec.ofChange Rows.editDocumentSpec) :=
  OpenClaim.holds_of_wide 4 Tryz.f4 rfl rfl rfl rfl rfl rfl rfl ⟨rfl, rfl, rfl, rfl, rfl⟩ rfl rfl rfl rfl rfl (by kernel_rfl) Tryz.func4 (by kernel_rfl)
    (of_decide_eq_true (by kernel_rfl)) (by unfold Func.isWrapper; first | (rw [if_pos (by decide +kernel)]; kernel_rfl) | (rw [if_neg (by decide +kernel)]; exact ⟨rfl, rfl⟩))
    (fun os started H enc _ => lifted os started H enc)

end Go.Proofs.YtnclnijlpchdnaaGreat.editDocument
namespace Go.Proofs.YtnclnijlpchdnaaGreat
theorem editDocument_holds : Rows.EditDocumentSaid := editDocument.over
end Go.Proofs.YtnclnijlpchdnaaGreat
