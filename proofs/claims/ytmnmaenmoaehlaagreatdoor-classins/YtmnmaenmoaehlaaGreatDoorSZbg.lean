/-
  The document's text of what is in any node of a tree; its Inner. The class, plainly: families, and the document's way; both are one.
-/
import Derived.Test.YtmnmaenmoaehlaaGreatDoorSZbd
import Derived.Test.YtmnmaenmoaehlaaGreatDoorSZbf
import Derived.Test.YtmnmaenmoaehlaaGreatDoorSZbb
namespace Go.Proofs.YtmnmaenmoaehlaaGreatDoor
open Go.RowKit Go.Lib

/-- What an arena's nodes are besides their links. -/
structure OkO (o : OneM) : Prop where
  lo : 0 ≤ o.kind
  hi : o.kind ≤ 5
  short : ShortO o
  few : o.attrs.length ≤ 1024
  tmpl : o.inner ≠ -1 → isT o.name = true
def Ext (os : List OneM) : Prop := ∀ (i : Nat) o, os[i]? = some o → OkO o

theorem rs_of {rs : List OneR} {k : Nat} {c : OneM} (h : (osOf rs)[k]? = some c) : ∃ r, rs[k]? = some r ∧ r.o = c := by
  unfold osOf at h
  rw [List.getElem?_map] at h
  cases hr : rs[k]? with
  | none => rw [hr] at h; cases h
  | some r => rw [hr] at h; exact ⟨r, rfl, by simpa using h⟩
theorem sum_take (f : Nat → Nat) (l : List Nat) (j : Nat) : ((l.take j).map f).sum ≤ (l.map f).sum := by
  induction l generalizing j with
  | nil => simp
  | cons x l ih =>
    cases j with
    | zero => simp
    | succ j => have := ih j; simp only [List.take_succ_cons, List.map_cons, List.sum_cons]; omega
theorem sum_mem (f : Nat → Nat) (l : List Nat) (k : Nat) (h : k ∈ l) : f k ≤ (l.map f).sum := by
  induction l with
  | nil => cases h
  | cons x l ih =>
    simp only [List.map_cons, List.sum_cons]
    rcases List.mem_cons.1 h with rfl | h
    · omega
    · have := ih h; omega
theorem tmpl_plain {nm : ByteArray} (h : isT nm = true) (sc : Bool) : plainM nm sc = false := by
  unfold isT at h
  have e : nm.toList = [116, 101, 109, 112, 108, 97, 116, 101] := by simpa using h
  have e2 : nm = ⟨#[116, 101, 109, 112, 108, 97, 116, 101]⟩ := by
    have : nm.data.toList = [116, 101, 109, 112, 108, 97, 116, 101] := by rw [← toList_data]; exact e
    obtain ⟨d⟩ := nm
    congr 1
    exact Array.toList_inj.1 this
  rw [e2]
  cases sc <;> decide +kernel

theorem doc_all {W0 : World} {base bR g cap : Nat} {rs : List OneR} (h : Rf W0 base bR g cap rs) {ns : List NodeM} {os : List OneM} (ho : osOf rs = os) (hs : Sim ns os) (hE : Ext os) (sc : Bool) :
    ∀ (f i : Nat) (path : List Nat) (o : OneM), PathOf (upO os) i path → os.length + 1 ≤ path.length + f → os[i]? = some o → costN os f i ≤ 10000000000000 → ∀ W, Below W0.heap.size W0 W →
      Calls Tryz.prog 49 #[.pointer (some ⟨bR, 0, none⟩), .int .i64 i, .bool sc] W fun e w' => (∃ s : ByteArray, e = .returned (.string s) ∧ s.data.toList = inL os sc f i) ∧ Below W.heap.size W w' := by
  intro f
  induction f with
  | zero =>
    intro i path o hp hf _ _ _ _
    have := nodup_few os.length path (path_nodup hp) (path_in hp)
    omega
  | succ f ih =>
    intro i path o hp hf hi hcost W hW
    have hB := hW.size
    have hRW := h.below hW
    obtain ⟨r, hr, hro⟩ := rs_of (by rw [ho]; exact hi)
    rw [inL_at hi]
    rw [costN_at hi] at hcost
    cases hv : voidO o with
    | true => exact below_void hRW i r hr sc (by rw [hro]; exact hv)
    | false =>
      rw [if_neg (by simp)]
      -- the kids, one by one
      have one : ∀ (q : Nat) (rq : OneR), rs[q]? = some rq → rq.o.kids = kidsOf os o → (htmlM rq.o.kind rq.o.space && plainM rq.o.name sc) = plainO o sc → ∀ k ∈ rq.o.kids, ∀ W2, Below W.heap.size W W2 →
          Calls Tryz.prog 74 #[.pointer (some ⟨bR, 0, none⟩), .int .i64 (k : Nat), .int .i64 q, .bool sc] W2 fun e w' => (∃ s : ByteArray, e = .returned (.string s) ∧ s.data.toList = kidT os sc f (plainO o sc) k) ∧ Below W2.heap.size W2 w' := by
        intro q rq hq hks hpl k hk W2 hW2
        rw [hks] at hk
        obtain ⟨c, path', hc, hp', hlt⟩ := kid_path hs hi hp hk
        obtain ⟨rk, hrk, hrko⟩ := rs_of (by rw [ho]; exact hc)
        have hR2 := h.below (hW.trans (hW2.mono hB))
        have hok := hE k c hc
        have hup : c.up ≠ -1 := by
          unfold kidsOf at hk
          have dn : ∀ (s : Nat) (so : OneM), os[s]? = some so → k ∈ so.kids → c.up ≠ -1 := by
            intro s so hso hks
            obtain ⟨c', hc', hu⟩ := hs.down s so k hso hks
            rw [hc] at hc'; cases hc'
            rw [hu]; omega
          rcases hs.inner i o hi with h1 | ⟨h1, m, hm, _⟩
          · rw [if_pos h1] at hk; exact dn i o hi hk
          · rw [if_neg (by rw [h1]; omega), h1, show ((i : Int) + 1).toNat = i + 1 by omega, hm] at hk
            exact dn (i + 1) m hm hk
        have hk0 : c.kind ≠ 0 := fun e => hup (hs.alone k c hc (.inl e))
        have hk5 : c.kind ≠ 5 := fun e => hup (hs.alone k c hc (.inr e))
        have hcc : costN os f k ≤ 10000000000000 := by
          have h1 := sum_mem (kidN os f) _ k hk
          rw [kidN_at hc] at h1
          omega
        rw [kidT_at hc]
        unfold nodeT
        by_cases h1 : c.kind = 1
        · rw [if_pos h1]
          have := one_elem hR2 k (q : Int) rk hrk sc (by rw [hrko]; exact h1) (by rw [hrko]; exact hok.short) (inL os sc f k) (by have := inL_len os sc f k; omega)
            (fun W3 hW3 => ih k path' c hp' (by omega) hc hcc W3 ((hW.trans (hW2.mono hB)).trans (hW3.mono (hW.trans (hW2.mono hB)).size)))
          rw [hrko] at this
          exact this
        · rw [if_neg h1]
          by_cases h2 : c.kind = 2
          · rw [if_pos h2]
            have := one_text hR2 k q rk rq hrk hq sc (by rw [hrko]; exact h2) (by rw [hrko]; exact hok.short.data)
            rw [hrko, hpl] at this
            exact this
          · rw [if_neg h2]
            by_cases h3 : c.kind = 3
            · rw [if_pos h3]
              have := one_comment hR2 k q rk rq hrk hq sc (by rw [hrko]; exact h3) (by rw [hrko]; have := hok.short.data; omega)
              rw [hrko] at this
              exact this
            · rw [if_neg h3]
              have h4 : c.kind = 4 := by have := hok.lo; have := hok.hi; omega
              rw [if_pos h4]
              have := one_doctype hR2 k q rk rq hrk hq sc (by rw [hrko]; exact h4) (by rw [hrko]; have := hok.short.name; omega)
              rw [hrko] at this
              exact this
      have len : ∀ (ks : List Nat), ks = kidsOf os o → ∀ j, ((ks.take j).flatMap (kidT os sc f (plainO o sc))).length ≤ 100000000000000 := by
        intro ks hks j
        have h1 := flat_sum (kidT_len os sc f (plainO o sc)) (ks.take j)
        have h2 := sum_take (kidN os f) ks j
        rw [hks] at h1 h2 ⊢
        omega
      rcases hs.inner i o hi with h1 | ⟨h1, m, hm, hh⟩
      · have e : kidsOf os o = o.kids := by unfold kidsOf; rw [if_pos h1]
        have := below_plain hRW i i r r hr hr sc (kidT os sc f (plainO o sc)) (by rw [hro]; exact hv) ⟨by rw [hro]; exact h1, rfl⟩ (one i r hr (by rw [hro, e]) (by rw [hro]; rfl)) (len _ (by rw [hro, e]))
        rw [hro, ← e] at this
        exact this
      · obtain ⟨rm, hrm, hrmo⟩ := rs_of (k := i + 1) (by rw [ho]; exact hm)
        have e : kidsOf os o = m.kids := by
          unfold kidsOf
          rw [if_neg (by rw [h1]; omega), h1, show ((i : Int) + 1).toNat = i + 1 by omega, hm]
        have hm5 : m.kind = 5 := by
          rcases hs.host (i + 1) m hm with h2 | ⟨h2, _⟩
          · rw [hh] at h2; omega
          · exact h2
        have hpl : plainO o sc = false := by
          unfold plainO
          rw [tmpl_plain ((hE i o hi).tmpl (by rw [h1]; omega)) sc]
          simp
        have hplm : (htmlM rm.o.kind rm.o.space && plainM rm.o.name sc) = plainO o sc := by
          rw [hpl, hrmo]
          unfold htmlM
          rw [hm5]
          rfl
        have := below_inner hRW i (i + 1) r rm hr hrm sc (kidT os sc f (plainO o sc)) (by rw [hro]; exact hv) (by rw [hro, h1]; rfl) (one (i + 1) rm hrm (by rw [hrmo, e]) hplm) (len _ (by rw [hrmo, e]))
        rw [hrmo, ← e] at this
        exact this

set_option maxHeartbeats 1000000 in
theorem rinner_in {W0 : World} {base bR g cap : Nat} {rs : List OneR} (h : Rf W0 base bR g cap rs) {ns : List NodeM} {os : List OneM} (ho : osOf rs = os) (hs : Sim ns os) (hE : Ext os) (sc : Bool) {i : Nat} {o : OneM} (hi : os[i]? = some o) (hc : costN os (os.length + 1) i ≤ 10000000000000) :
    Calls Tryz.prog 22 #[.pointer (some ⟨bR, 0, none⟩), .int .i64 i, .bool sc] W0 fun e w' => (∃ s : ByteArray, e = .returned (.tuple #[.string s, .int .i64 0]) ∧ s.data.toList = inL os sc (os.length + 1) i) ∧ Below W0.heap.size W0 w' := by
  obtain ⟨path, hp⟩ := hs.ends i (List.getElem?_eq_some_iff.1 hi).1
  have HD := hidE (doc_all h ho hs hE sc (os.length + 1) i path o hp (by omega) hi hc W0 (Below.refl _ _))
  have hI := refIs_any h (i : Int)
  rw [ho, hasO_of hi] at hI
  have HI := hidE hI
  clear h ho hs hE hi hc hp hI
  go_enter Tryz.func22, Tryz.ntmps22
  go_wp2_with (first
    | (go_at_call 42; refine (unhidE HI).mono ?_; rintro e w1 ⟨rfl, rfl⟩)
    | (go_at_call 49; refine (unhidE HD).mono ?_; rintro e w2 ⟨⟨s, rfl, hsd⟩, hb2⟩; have HSD := hidE hsd; have HB2 := hidE hb2; clear hsd hb2))
  go_ret2
  exact ⟨⟨_, rfl, unhidE HSD⟩, unhidE HB2⟩
set_option maxHeartbeats 1000000 in
theorem rinner_no {W0 : World} {base bR g cap : Nat} {rs : List OneR} (h : Rf W0 base bR g cap rs) (sc : Bool) {k : Int} (hk : hasO (osOf rs) k = false) :
    Calls Tryz.prog 22 #[.pointer (some ⟨bR, 0, none⟩), .int .i64 k, .bool sc] W0 fun e w' => e = .returned (.tuple #[.string ⟨#[]⟩, .int .i64 6]) ∧ Below W0.heap.size W0 w' := by
  have hI := refIs_any h k
  rw [hk] at hI
  have HI := hidE hI
  clear h hk hI
  go_enter Tryz.func22, Tryz.ntmps22
  go_wp2_with (go_at_call 42; refine (unhidE HI).mono ?_; rintro e w1 ⟨rfl, rfl⟩)
  go_ret2
  exact ⟨rfl, Below.refl _ _⟩
end Go.Proofs.YtmnmaenmoaehlaaGreatDoor

namespace Go.Proofs.YtmnmaenmoaehlaaGreatDoor
open Go.RowKit Go.Lib

def roleO (o : OneM) : Int :=
  if o.kind == 0 then 1 else if o.kind == 2 then 9 else if o.kind == 3 then 10 else if o.kind == 1 && (o.space == 0 && o.inner == -1) then roleNm o.name else 0
def roleAt (os : List OneM) (k : Nat) : Int := match os[k]? with | some c => roleO c | none => 0
def kindAt (os : List OneM) (k : Nat) : Int := match os[k]? with | some c => c.kind | none => -1
def ownR (r : Int) (o : OneM) : Bool :=
  if r == 0 then false else if r == 9 then okText o.data else if r == 10 then okComP o.data else if decide (r ≤ 4) then o.attrs.length == 0 else attrsOk o.attrs
def kidsR (r : Int) (l : List Int) : Bool :=
  if r == 1 then l == [2] else if r == 2 then l == [3, 5] else if r == 3 then atMostP 4 l else if r == 4 then atMostP 9 l
  else if r == 5 then eachP [9, 10, 8, 6, 7] 0 l else if r == 6 then eachP [9, 10, 8, 6, 7] 0 l else if r == 7 then eachP [9, 10, 8] 0 l else if r == 8 then eachP [9, 10, 8] 0 l else l == []
def famOk (os : List OneM) (o : OneM) (d : Nat) : Bool := decide (d ≤ 200) && (ownR (roleO o) o && kidsR (roleO o) (o.kids.map (roleAt os)))
def famF (os : List OneM) : Nat → Nat → Nat → Bool
  | 0, _, _ => false
  | n + 1, i, d => match os[i]? with
    | none => false
    | some o => famOk os o d && o.kids.all fun k => famF os n k (d + 1)
theorem famF_at {os : List OneM} {i : Nat} {o : OneM} (h : os[i]? = some o) (n d : Nat) : famF os (n + 1) i d = (famOk os o d && o.kids.all fun k => famF os n k (d + 1)) := by rw [famF, h]

def kidsD (os : List OneM) (one : Nat → Bool) : Int → List Nat → Bool
  | _, [] => true
  | ah, k :: t => !(kindAt os k == 2 && ah == 2) && (one k && kidsD os one (kindAt os k) t)
def oneD (os : List OneM) : Nat → Nat → Bool → Nat → Bool
  | 0, _, _, _ => false
  | n + 1, i, block, d => match os[i]? with
    | none => false
    | some o =>
      if d > 200 then false
      else if o.kind = 2 then okText o.data
      else if o.kind = 3 then okComD o.data.data.toList
      else if o.kind = 1 then
        (if o.space = 0 ∧ attrsOk o.attrs = true then
          (if roleNm o.name = 8 then kidsD os (fun k => oneD os n k false (d + 1)) (-1) o.kids
          else if roleNm o.name = 7 then block && kidsD os (fun k => oneD os n k false (d + 1)) (-1) o.kids
          else if roleNm o.name = 6 then block && kidsD os (fun k => oneD os n k true (d + 1)) (-1) o.kids
          else false)
        else false)
      else false
theorem oneD_at {os : List OneM} {i : Nat} {o : OneM} (h : os[i]? = some o) (n : Nat) (block : Bool) (d : Nat) : oneD os (n + 1) i block d =
      if d > 200 then false
      else if o.kind = 2 then okText o.data
      else if o.kind = 3 then okComD o.data.data.toList
      else if o.kind = 1 then
        (if o.space = 0 ∧ attrsOk o.attrs = true then
          (if roleNm o.name = 8 then kidsD os (fun k => oneD os n k false (d + 1)) (-1) o.kids
          else if roleNm o.name = 7 then block && kidsD os (fun k => oneD os n k false (d + 1)) (-1) o.kids
          else if roleNm o.name = 6 then block && kidsD os (fun k => oneD os n k true (d + 1)) (-1) o.kids
          else false)
        else false)
      else false := by rw [oneD, h]

/-- What the law's trees keep besides. -/
structure PgO (os : List OneM) : Prop where
  leaf : ∀ (i : Nat) o, os[i]? = some o → o.kind = 2 ∨ o.kind = 3 → o.kids = []
  tmpl : ∀ (i : Nat) o, os[i]? = some o → o.inner ≠ -1 → isT o.name = true
  top : ∃ o, os[0]? = some o ∧ o.kind = 0 ∧ o.attrs = []
  only : ∀ (i : Nat) o, os[i]? = some o → o.kind = 0 → i = 0

theorem role_tmpl {nm : ByteArray} (h : isT nm = true) : roleNm nm = 0 := by
  unfold isT at h
  have e : nm.toList = [116, 101, 109, 112, 108, 97, 116, 101] := by simpa using h
  unfold roleNm
  rw [e]
  rfl
theorem role9 (o : OneM) : (roleO o == 9) = (o.kind == 2) := by
  unfold roleO
  have := roleNm_cases o.name
  by_cases h0 : o.kind = 0
  · rw [h0]; rfl
  · by_cases h2 : o.kind = 2
    · rw [h2]; rfl
    · have e0 : (o.kind == 0) = false := by simpa using h0
      have e2 : (o.kind == 2) = false := by simpa using h2
      rw [e0, e2]
      simp only [Bool.false_eq_true, if_false]
      split
      · rfl
      · split
        · rw [beq_eq_false_iff_ne]; omega
        · rfl
theorem role9At (os : List OneM) (k : Nat) : (roleAt os k == 9) = (kindAt os k == 2) := by
  unfold roleAt kindAt
  cases os[k]? with
  | none => rfl
  | some c => exact role9 c
theorem kids_fam (os : List OneM) (m : List Int) (one fam : Nat → Bool) : ∀ (l : List Nat) (ah ra : Int), (∀ k ∈ l, one k = (m.contains (roleAt os k) && fam k)) → (ah == 2) = (ra == 9) → kidsD os one ah l = (eachP m ra (l.map (roleAt os)) && l.all fam) := by
  intro l
  induction l with
  | nil => intro ah ra _ _; rfl
  | cons k t ih =>
    intro ah ra h he
    have e := ih (kindAt os k) (roleAt os k) (fun x hx => h x (List.mem_cons_of_mem _ hx)) (role9At os k).symm
    rw [kidsD, List.map_cons, eachP, List.all_cons, e, h k List.mem_cons_self, role9At, he]
    cases m.contains (roleAt os k) <;> cases fam k <;> cases (kindAt os k == 2) <;> cases (ra == 9) <;> cases eachP m (roleAt os k) (t.map (roleAt os)) <;> simp

def allowed (block : Bool) : List Int := if block then [9, 10, 8, 6, 7] else [9, 10, 8]
theorem one_fam {os : List OneM} (hP : PgO os) : ∀ (n i : Nat) (block : Bool) (d : Nat), oneD os n i block d = ((allowed block).contains (roleAt os i) && famF os n i d) := by
  intro n
  induction n with
  | zero => intro i block d; simp [oneD, famF]
  | succ n ih =>
    intro i block d
    cases hi : os[i]? with
    | none => rw [oneD, famF, hi]; simp
    | some o =>
      have hr : roleAt os i = roleO o := by unfold roleAt; rw [hi]
      have kf := fun (b : Bool) => kids_fam os (allowed b) (fun k => oneD os n k b (d + 1)) (fun k => famF os n k (d + 1)) o.kids (-1) 0 (fun k _ => ih k b (d + 1)) rfl
      rw [oneD_at hi, famF_at hi, hr]
      unfold famOk
      by_cases hd : d > 200
      · rw [if_pos hd, show decide (d ≤ 200) = false by simp; omega]
        simp
      · rw [if_neg hd, show decide (d ≤ 200) = true by simp; omega]
        by_cases h2 : o.kind = 2
        · rw [if_pos h2, hP.leaf i o hi (.inl h2)]
          have e : roleO o = 9 := by unfold roleO; rw [h2]; rfl
          rw [e]
          cases block <;> simp [allowed, ownR, kidsR]
        · rw [if_neg h2]
          by_cases h3 : o.kind = 3
          · rw [if_pos h3, hP.leaf i o hi (.inr h3), ← okCom_eq]
            have e : roleO o = 10 := by unfold roleO; rw [h3]; rfl
            rw [e]
            cases block <;> simp [allowed, ownR, kidsR]
          · rw [if_neg h3]
            by_cases h1 : o.kind = 1
            · rw [if_pos h1]
              by_cases hi1 : o.inner = -1
              · by_cases hs : o.space = 0
                · have e : roleO o = roleNm o.name := by unfold roleO; rw [h1, hs, hi1]; rfl
                  rw [e]
                  by_cases ha : attrsOk o.attrs = true
                  · rw [if_pos ⟨hs, ha⟩]
                    by_cases r8 : roleNm o.name = 8
                    · rw [if_pos r8, r8, kf false]
                      cases block <;> simp [allowed, ownR, kidsR, ha]
                    · rw [if_neg r8]
                      by_cases r7 : roleNm o.name = 7
                      · rw [if_pos r7, r7, kf false]
                        cases block <;> simp [allowed, ownR, kidsR, ha]
                      · rw [if_neg r7]
                        by_cases r6 : roleNm o.name = 6
                        · rw [if_pos r6, r6, kf true]
                          cases block <;> simp [allowed, ownR, kidsR, ha]
                        · rw [if_neg r6]
                          have := roleNm_cases o.name
                          have hc : (allowed block).contains (roleNm o.name) = false := by
                            rw [Bool.eq_false_iff]
                            intro hc
                            rw [List.contains_iff_mem] at hc
                            cases block <;> simp [allowed] at hc <;> omega
                          rw [hc]; rfl
                  · rw [if_neg (fun h => ha h.2)]
                    have ha' : attrsOk o.attrs = false := by simpa using ha
                    have := roleNm_cases o.name
                    by_cases hc : (allowed block).contains (roleNm o.name) = true
                    · have hr6 : roleNm o.name = 6 ∨ roleNm o.name = 7 ∨ roleNm o.name = 8 := by
                        rw [List.contains_iff_mem] at hc
                        cases block <;> simp [allowed] at hc <;> omega
                      have : ownR (roleNm o.name) o = false := by rcases hr6 with e | e | e <;> rw [e] <;> simp [ownR, ha']
                      rw [this]; simp
                    · rw [show (allowed block).contains (roleNm o.name) = false by simpa using hc]; rfl
                · rw [if_neg (fun h => hs h.1)]
                  have e : roleO o = 0 := by unfold roleO; rw [h1]; simp [hs]
                  rw [e]; cases block <;> simp [allowed]
              · have hrn := role_tmpl (hP.tmpl i o hi hi1)
                have e : roleO o = 0 := by unfold roleO; rw [h1]; simp [hi1]
                rw [e, hrn]
                cases block <;> simp [allowed]
            · rw [if_neg h1]
              have e : roleO o = 0 ∨ roleO o = 1 := by
                unfold roleO
                by_cases h0 : o.kind = 0
                · rw [h0]; right; rfl
                · left; simp [h0, h1, h2, h3]
              rcases e with e | e <;> rw [e] <;> cases block <;> simp [allowed]
end Go.Proofs.YtmnmaenmoaehlaaGreatDoor
