/-
  The document's text of what is in any node of a tree; its Inner.
-/
import Derived.Test.YtfcagiacjpcpeaaXd
import Derived.Test.YtfcagiacjpcpeaaVk
namespace Go.Proofs.Ytfcagiacjpcpeaa
open Go.RowKit Go.Lib

/-- What an arena's nodes are besides their links. -/
structure OkO (o : OneM) : Prop where
  lo : 0 ≤ o.kind
  hi : o.kind ≤ 5
  short : ShortO o
  few : o.attrs.length ≤ 1024
  tmpl : o.inner ≠ -1 → isT o.name = true
def Ext (os : List OneM) : Prop := ∀ (i : Nat) o, os[i]? = some o → OkO o

theorem rs_of {rs : List OneR} {k : Nat} {c : OneM} (h : (osOf rs)[k]? = some c) : ∃ r, rs[k]? = some r ∧ r.o = c := by
  unfold osOf at h
  rw [List.getElem?_map] at h
  cases hr : rs[k]? with
  | none => rw [hr] at h; cases h
  | some r => rw [hr] at h; exact ⟨r, rfl, by simpa using h⟩
theorem sum_take (f : Nat → Nat) (l : List Nat) (j : Nat) : ((l.take j).map f).sum ≤ (l.map f).sum := by
  induction l generalizing j with
  | nil => simp
  | cons x l ih =>
    cases j with
    | zero => simp
    | succ j => have := ih j; simp only [List.take_succ_cons, List.map_cons, List.sum_cons]; omega
theorem sum_mem (f : Nat → Nat) (l : List Nat) (k : Nat) (h : k ∈ l) : f k ≤ (l.map f).sum := by
  induction l with
  | nil => cases h
  | cons x l ih =>
    simp only [List.map_cons, List.sum_cons]
    rcases List.mem_cons.1 h with rfl | h
    · omega
    · have := ih h; omega
theorem tmpl_plain {nm : ByteArray} (h : isT nm = true) (sc : Bool) : plainM nm sc = false := by
  unfold isT at h
  have e : nm.toList = [116, 101, 109, 112, 108, 97, 116, 101] := by simpa using h
  have e2 : nm = ⟨#[116, 101, 109, 112, 108, 97, 116, 101]⟩ := by
    have : nm.data.toList = [116, 101, 109, 112, 108, 97, 116, 101] := by rw [← toList_data]; exact e
    obtain ⟨d⟩ := nm
    congr 1
    exact Array.toList_inj.1 this
  rw [e2]
  cases sc <;> decide +kernel

theorem doc_all {W0 : World} {base bR g cap : Nat} {rs : List OneR} (h : Rf W0 base bR g cap rs) {ns : List NodeM} {os : List OneM} (ho : osOf rs = os) (hs : Sim ns os) (hE : Ext os) (sc : Bool) :
    ∀ (f i : Nat) (path : List Nat) (o : OneM), PathOf (upO os) i path → os.length + 1 ≤ path.length + f → os[i]? = some o → costN os f i ≤ 10000000000000 → ∀ W, Below W0.heap.size W0 W →
      Calls Try.prog 38 #[.pointer (some ⟨bR, 0, none⟩), .int .i64 i, .bool sc] W fun e w' => (∃ s : ByteArray, e = .returned (.string s) ∧ s.data.toList = inL os sc f i) ∧ Below W.heap.size W w' := by
  intro f
  induction f with
  | zero =>
    intro i path o hp hf _ _ _ _
    have := nodup_few os.length path (path_nodup hp) (path_in hp)
    omega
  | succ f ih =>
    intro i path o hp hf hi hcost W hW
    have hB := hW.size
    have hRW := h.below hW
    obtain ⟨r, hr, hro⟩ := rs_of (by rw [ho]; exact hi)
    rw [inL_at hi]
    rw [costN_at hi] at hcost
    cases hv : voidO o with
    | true => exact below_void hRW i r hr sc (by rw [hro]; exact hv)
    | false =>
      rw [if_neg (by simp)]
      -- the kids, one by one
      have one : ∀ (q : Nat) (rq : OneR), rs[q]? = some rq → rq.o.kids = kidsOf os o → (htmlM rq.o.kind rq.o.space && plainM rq.o.name sc) = plainO o sc → ∀ k ∈ rq.o.kids, ∀ W2, Below W.heap.size W W2 →
          Calls Try.prog 59 #[.pointer (some ⟨bR, 0, none⟩), .int .i64 (k : Nat), .int .i64 q, .bool sc] W2 fun e w' => (∃ s : ByteArray, e = .returned (.string s) ∧ s.data.toList = kidT os sc f (plainO o sc) k) ∧ Below W2.heap.size W2 w' := by
        intro q rq hq hks hpl k hk W2 hW2
        rw [hks] at hk
        obtain ⟨c, path', hc, hp', hlt⟩ := kid_path hs hi hp hk
        obtain ⟨rk, hrk, hrko⟩ := rs_of (by rw [ho]; exact hc)
        have hR2 := h.below (hW.trans (hW2.mono hB))
        have hok := hE k c hc
        have hup : c.up ≠ -1 := by
          unfold kidsOf at hk
          have dn : ∀ (s : Nat) (so : OneM), os[s]? = some so → k ∈ so.kids → c.up ≠ -1 := by
            intro s so hso hks
            obtain ⟨c', hc', hu⟩ := hs.down s so k hso hks
            rw [hc] at hc'; cases hc'
            rw [hu]; omega
          rcases hs.inner i o hi with h1 | ⟨h1, m, hm, _⟩
          · rw [if_pos h1] at hk; exact dn i o hi hk
          · rw [if_neg (by rw [h1]; omega), h1, show ((i : Int) + 1).toNat = i + 1 by omega, hm] at hk
            exact dn (i + 1) m hm hk
        have hk0 : c.kind ≠ 0 := fun e => hup (hs.alone k c hc (.inl e))
        have hk5 : c.kind ≠ 5 := fun e => hup (hs.alone k c hc (.inr e))
        have hcc : costN os f k ≤ 10000000000000 := by
          have h1 := sum_mem (kidN os f) _ k hk
          rw [kidN_at hc] at h1
          omega
        rw [kidT_at hc]
        unfold nodeT
        by_cases h1 : c.kind = 1
        · rw [if_pos h1]
          have := one_elem hR2 k (q : Int) rk hrk sc (by rw [hrko]; exact h1) (by rw [hrko]; exact hok.short) (inL os sc f k) (by have := inL_len os sc f k; omega)
            (fun W3 hW3 => ih k path' c hp' (by omega) hc hcc W3 ((hW.trans (hW2.mono hB)).trans (hW3.mono (hW.trans (hW2.mono hB)).size)))
          rw [hrko] at this
          exact this
        · rw [if_neg h1]
          by_cases h2 : c.kind = 2
          · rw [if_pos h2]
            have := one_text hR2 k q rk rq hrk hq sc (by rw [hrko]; exact h2) (by rw [hrko]; exact hok.short.data)
            rw [hrko, hpl] at this
            exact this
          · rw [if_neg h2]
            by_cases h3 : c.kind = 3
            · rw [if_pos h3]
              have := one_comment hR2 k q rk rq hrk hq sc (by rw [hrko]; exact h3) (by rw [hrko]; have := hok.short.data; omega)
              rw [hrko] at this
              exact this
            · rw [if_neg h3]
              have h4 : c.kind = 4 := by have := hok.lo; have := hok.hi; omega
              rw [if_pos h4]
              have := one_doctype hR2 k q rk rq hrk hq sc (by rw [hrko]; exact h4) (by rw [hrko]; have := hok.short.name; omega)
              rw [hrko] at this
              exact this
      have len : ∀ (ks : List Nat), ks = kidsOf os o → ∀ j, ((ks.take j).flatMap (kidT os sc f (plainO o sc))).length ≤ 100000000000000 := by
        intro ks hks j
        have h1 := flat_sum (kidT_len os sc f (plainO o sc)) (ks.take j)
        have h2 := sum_take (kidN os f) ks j
        rw [hks] at h1 h2 ⊢
        omega
      rcases hs.inner i o hi with h1 | ⟨h1, m, hm, hh⟩
      · have e : kidsOf os o = o.kids := by unfold kidsOf; rw [if_pos h1]
        have := below_plain hRW i i r r hr hr sc (kidT os sc f (plainO o sc)) (by rw [hro]; exact hv) ⟨by rw [hro]; exact h1, rfl⟩ (one i r hr (by rw [hro, e]) (by rw [hro]; rfl)) (len _ (by rw [hro, e]))
        rw [hro, ← e] at this
        exact this
      · obtain ⟨rm, hrm, hrmo⟩ := rs_of (k := i + 1) (by rw [ho]; exact hm)
        have e : kidsOf os o = m.kids := by
          unfold kidsOf
          rw [if_neg (by rw [h1]; omega), h1, show ((i : Int) + 1).toNat = i + 1 by omega, hm]
        have hm5 : m.kind = 5 := by
          rcases hs.host (i + 1) m hm with h2 | ⟨h2, _⟩
          · rw [hh] at h2; omega
          · exact h2
        have hpl : plainO o sc = false := by
          unfold plainO
          rw [tmpl_plain ((hE i o hi).tmpl (by rw [h1]; omega)) sc]
          simp
        have hplm : (htmlM rm.o.kind rm.o.space && plainM rm.o.name sc) = plainO o sc := by
          rw [hpl, hrmo]
          unfold htmlM
          rw [hm5]
          rfl
        have := below_inner hRW i (i + 1) r rm hr hrm sc (kidT os sc f (plainO o sc)) (by rw [hro]; exact hv) (by rw [hro, h1]; rfl) (one (i + 1) rm hrm (by rw [hrmo, e]) hplm) (len _ (by rw [hrmo, e]))
        rw [hrmo, ← e] at this
        exact this

set_option maxHeartbeats 1000000 in
theorem rinner_in {W0 : World} {base bR g cap : Nat} {rs : List OneR} (h : Rf W0 base bR g cap rs) {ns : List NodeM} {os : List OneM} (ho : osOf rs = os) (hs : Sim ns os) (hE : Ext os) (sc : Bool) {i : Nat} {o : OneM} (hi : os[i]? = some o) (hc : costN os (os.length + 1) i ≤ 10000000000000) :
    Calls Try.prog 11 #[.pointer (some ⟨bR, 0, none⟩), .int .i64 i, .bool sc] W0 fun e w' => (∃ s : ByteArray, e = .returned (.tuple #[.string s, .int .i64 0]) ∧ s.data.toList = inL os sc (os.length + 1) i) ∧ Below W0.heap.size W0 w' := by
  obtain ⟨path, hp⟩ := hs.ends i (List.getElem?_eq_some_iff.1 hi).1
  have HD := hidE (doc_all h ho hs hE sc (os.length + 1) i path o hp (by omega) hi hc W0 (Below.refl _ _))
  have hI := refIs_any h (i : Int)
  rw [ho, hasO_of hi] at hI
  have HI := hidE hI
  clear h ho hs hE hi hc hp hI
  go_enter Try.func11, Try.ntmps11
  go_wp2_with (first
    | (go_at_call 37; refine (unhidE HI).mono ?_; rintro e w1 ⟨rfl, rfl⟩)
    | (go_at_call 38; refine (unhidE HD).mono ?_; rintro e w2 ⟨⟨s, rfl, hsd⟩, hb2⟩; have HSD := hidE hsd; have HB2 := hidE hb2; clear hsd hb2))
  go_ret2
  exact ⟨⟨_, rfl, unhidE HSD⟩, unhidE HB2⟩
set_option maxHeartbeats 1000000 in
theorem rinner_no {W0 : World} {base bR g cap : Nat} {rs : List OneR} (h : Rf W0 base bR g cap rs) (sc : Bool) {k : Int} (hk : hasO (osOf rs) k = false) :
    Calls Try.prog 11 #[.pointer (some ⟨bR, 0, none⟩), .int .i64 k, .bool sc] W0 fun e w' => e = .returned (.tuple #[.string ⟨#[]⟩, .int .i64 6]) ∧ Below W0.heap.size W0 w' := by
  have hI := refIs_any h k
  rw [hk] at hI
  have HI := hidE hI
  clear h hk hI
  go_enter Try.func11, Try.ntmps11
  go_wp2_with (go_at_call 37; refine (unhidE HI).mono ?_; rintro e w1 ⟨rfl, rfl⟩)
  go_ret2
  exact ⟨rfl, Below.refl _ _⟩
end Go.Proofs.Ytfcagiacjpcpeaa
