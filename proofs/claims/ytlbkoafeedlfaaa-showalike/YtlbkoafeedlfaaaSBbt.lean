/-
  Package show's Show of any node: the lines of what is below it. That arenas that a script makes hold texts of the length that package node lets in, and few nodes. Plain.
-/
import Derived.Test.YtlbkoafeedlfaaaSBbr
import Derived.Test.YtlbkoafeedlfaaaSBbs
import Derived.Test.YtlbkoafeedlfaaaSBbe
import Derived.Test.YtlbkoafeedlfaaaSBbo
import Derived.Test.YtlbkoafeedlfaaaSBaq
namespace Go.Proofs.Ytlbkoafeedlfaaa
open Go.RowKit

theorem writer_at (bb : Nat) (w : World) : Calls Try.prog 77 #[.pointer (some ⟨bb, 0, none⟩)] w fun e w' => e = .returned (.func (.func 119) #[] #[.pointer (some ⟨w.heap.size + 1, 0, none⟩), .pointer (some ⟨w.heap.size, 0, none⟩)]) ∧ w' = (w.alloc (.cells #[.pointer (some ⟨bb, 0, none⟩)] 115)).alloc (.cells #[.string ⟨#[32, 32]⟩] 9) := by
  go_enter Try.func77, Try.ntmps77
  go_wp2
  go_ret
  exact ⟨rfl, rfl⟩

theorem text_start {w : World} {bb : Nat} (h : Lib.BuilderAt 117 5 bb bb (.pointer (some ⟨bb, 0, none⟩)) [] w) :
    X2 bb (w.heap.size + 1) w.heap.size bb [] ((w.alloc (.cells #[.pointer (some ⟨bb, 0, none⟩)] 115)).alloc (.cells #[.string ⟨#[32, 32]⟩] 9)) := by
  have hF := Lib.BuilderAtF.of h
  obtain ⟨_, v, hv, _⟩ := id h
  have hlt : bb < w.heap.size := lt_of_block hv
  have hbl : Below w.heap.size w ((w.alloc (.cells #[.pointer (some ⟨bb, 0, none⟩)] 115)).alloc (.cells #[.string ⟨#[32, 32]⟩] 9)) := ((Below.refl _ w).alloc (Nat.le_refl _) _).alloc (by simp) _
  refine ⟨2, ⟨builder_keep hF (hbl.block bb hlt) (fun k c fz hc => (hbl.block k (lt_of_block hc)).trans hc), heap_alloc2_new _ _ _, heap_alloc2_old _ _ _, by omega, by omega, by omega, by omega, by omega, by omega, by simp; omega⟩⟩

set_option maxHeartbeats 4000000 in
theorem show_yes {w : World} {base bA : Nat} {ns : List NodeM} {os : List OneM} {F : Nat → Prop} (hA : ArS w base bA ns F) (hs : Sim ns os) (hso : SmallO os) (hl : os.length ≤ 900) {i : Nat} {o : OneM} (ho : os[i]? = some o) :
    Calls Try.prog 28 #[.pointer (some ⟨bA, 0, none⟩), .int .i64 i] w fun e w' => e = .returned (.tuple #[.string ⟨(evB (showE os i)).toArray⟩, .int .i64 0]) ∧ Below w.heap.size w w' := by
  obtain ⟨n, hn, sm⟩ := hs.get ho
  have hfp := first_path hs hn ho
  have hfi := path_first hfp
  obtain ⟨px, hpx⟩ := hs.ends i (List.getElem?_eq_some_iff.1 ho).1
  have hkid : ∀ c ∈ o.kids, ∃ pj, PathOf (upO os) c pj ∧ 0 ≤ 2 * pj.length := fun c hc => ⟨c :: px, hs.path_below ho (by simp [belowO, hc]) hpx, by omega⟩
  have hsh : showE os i = evL os o.kids 0 := by unfold showE evL kidsAt; rw [ho]
  have hbd := showE_bound hs hso hl ho
  rw [hsh] at hbd ⊢
  have hLn : (o.kids.flatMap (TR os)).length ≤ 900 := by
    have := TR_len hs ho
    have h2 : (TR os i).length ≤ os.length := tree_short hs _ _
    omega
  have HN := hide (nodeA hA (Below.refl _ w) hn)
  rw [hfi] at HN
  have HE1 : Hid (∀ (W : World) (sb : Nat), Below w.heap.size w W → X1 sb w.heap.size [] W → Calls Try.prog 73 #[.pointer (some ⟨bA, 0, none⟩), .int .i64 (headI o.kids), .func (.func 74) #[] #[.pointer (some ⟨sb, 0, none⟩)]] W fun e w' => e = .returned (.tuple #[]) ∧ X1 sb w.heap.size (evL os o.kids 0) w' ∧ Kept (own1 sb) w.heap.size W w') := hide (fun W sb hW hX =>
    each1 hA hs hso hl hW (Nat.le_refl _) hX o.kids (by rw [← hfi]; exact hfp) hkid hLn hbd)
  have HE2 : Hid (∀ (W : World) (bb kb tb : Nat), w.heap.size ≤ bb → Below w.heap.size w W → X2 bb kb tb bb [] W → Calls Try.prog 73 #[.pointer (some ⟨bA, 0, none⟩), .int .i64 (headI o.kids), .func (.func 119) #[] #[.pointer (some ⟨kb, 0, none⟩), .pointer (some ⟨tb, 0, none⟩)]] W fun e w' => e = .returned (.tuple #[]) ∧ X2 bb kb tb bb (evL os o.kids 0) w' ∧ Kept (own2 bb kb tb) bb W w') := hide (fun W bb kb tb hbb hW hX =>
    each2 hA hs hso hl hW hbb hX o.kids (by rw [← hfi]; exact hfp) hkid hLn hbd)
  generalize evL os o.kids 0 = EE at HE1 HE2 hbd ⊢
  obtain ⟨tot, htot⟩ : ∃ tot, evZ EE = tot := ⟨_, rfl⟩
  rw [htot] at hbd
  have HTOT := hide htot
  have htz : (tot : Int) ≤ 50000000000000 := by omega
  generalize headI o.kids = fst at HN HE1 HE2
  clear hA hs hso hl ho hn sm hfp hfi hkid hsh hLn htot hpx
  go_enter Try.func28, Try.ntmps28
  set_option maxRecDepth 10000 in
  go_wp2_with (first
    | (go_at_call 18; refine (unhide HN).mono ?_; rintro e w1 ⟨a1, c1, rfl, hat, hb1⟩; have HB1 := hide hb1; have hz1 := hb1.size; clear hat hb1)
    | (go_at_call 73; refine (unhide HE1 _ _ (by exact ((unhide HB1).alloc hz1 _).alloc (by simp; omega) _) (by exact ⟨heap_alloc2_new _ _ _, by omega⟩)).mono ?_; rintro e w2 ⟨rfl, hx2, hk2⟩; have hsb : w2.heap[w1.heap.size + 1]? = some (.cells #[.int .i64 (tot : Int)] 3 (0, 0)) := (by have := hx2.1; unfold SizeAt at this; rw [unhide HTOT] at this; exact this); have hs21 : w1.heap.size + 1 < w2.heap.size := lt_of_block hsb; have hs20 : w1.heap.size < w2.heap.size := (by omega); have csb : w2.cell? ⟨w1.heap.size + 1, 0, none⟩ = some (.int .i64 (tot : Int)) := (by simp [World.cell?, hsb]); have hnd2 : w2.heap[w1.heap.size]? = some (Obj.cells #[.int .i64 n.kind, .int .i64 n.space, .string n.name, .slice a1 n.attrs.length c1, .string n.data, .string n.system, .int .i64 n.parent, .int .i64 fst, .int .i64 n.last, .int .i64 n.prev, .int .i64 n.next, .int .i64 n.inner] 37 (0, 0)) := hk2.cell (heap_alloc2_old _ _ _) (fun e => by unfold own1 at e; omega) (by decide); have HND2 := hide hnd2; have HB2 : Hid (Below w.heap.size w w2) := hide ((((unhide HB1).alloc hz1 _).alloc (by simp; omega) _).trans hk2.below); clear hx2 hk2 hsb hnd2)
    | (go_at_call 76; refine (Try.Builder_Grow_fresh w2.heap.size w2.heap.size tot _ (Nat.le_refl _) (by exact heap_alloc_new _ _) (by simp) (by omega)).mono ?_; rintro e w3 ⟨rfl, hbu3, hb3⟩; have HBU3 := hide hbu3; have hnd3 : w3.heap[w1.heap.size]? = some (Obj.cells #[.int .i64 n.kind, .int .i64 n.space, .string n.name, .slice a1 n.attrs.length c1, .string n.data, .string n.system, .int .i64 n.parent, .int .i64 fst, .int .i64 n.last, .int .i64 n.prev, .int .i64 n.next, .int .i64 n.inner] 37 (0, 0)) := (hb3.block _ hs20).trans (by rw [Below.heap_alloc _ _ _ hs20]; exact unhide HND2); have HND3 := hide hnd3; have HC3 : Hid (w3.cell? ⟨w1.heap.size, 7, none⟩ = some (.int .i64 fst)) := hide (by simp [World.cell?, hnd3]); have HB3 : Hid (Below w.heap.size w w3) := hide (((unhide HB2).alloc (unhide HB2).size _).trans (hb3.mono (unhide HB2).size)); clear hbu3 hb3 hnd3))
  go_region_held3 (fun w' => w'.cell? ⟨w1.heap.size, 7, none⟩ = some (.int .i64 fst)) (first | exact unhide HC3 | exact unhide HC4 | exact unhide HC5) (first
    | (go_at_call 77; refine (writer_at _ _).mono ?_; rintro e w4 ⟨rfl, hw4⟩; have HX4 : Hid (X2 w2.heap.size (w3.heap.size + 1) w3.heap.size w2.heap.size [] w4) := hide (by rw [hw4]; exact text_start (w := w3.drew) (unhide HBU3)); have HB34 : Hid (Below w3.heap.size w3 w4) := hide (by rw [hw4]; exact ((Below.refl _ w3).drew.alloc (Nat.le_refl _) _).alloc (by simp) _); have HC4 : Hid (w4.cell? ⟨w1.heap.size, 7, none⟩ = some (.int .i64 fst)) := hide (by have := ((unhide HB34).block _ (lt_of_block (unhide HND3))).trans (unhide HND3); simp [World.cell?, this]); clear hw4)
    | (go_at_call 73; refine (unhide HE2 _ w2.heap.size _ _ (unhide HB2).size (by exact (unhide HB3).trans ((unhide HB34).mono (unhide HB3).size)) (unhide HX4)).mono ?_; rintro e w5 ⟨rfl, ⟨m5, ht5⟩, hk5⟩; have HT5 := hide ht5; have HB5 : Hid (Below w.heap.size w w5) := hide (((unhide HB3).trans ((unhide HB34).mono (unhide HB3).size)).trans (hk5.below.mono (unhide HB2).size)); have HC5 : Hid (w5.cell? ⟨w1.heap.size, 7, none⟩ = some (.int .i64 fst)) := hide (by have h4 := ((unhide HB34).block _ (lt_of_block (unhide HND3))).trans (unhide HND3); have hl3 := lt_of_block (unhide HND3); have h5 := hk5.cell h4 (fun e => by rcases e with (e | e) | e <;> omega) (by decide); simp [World.cell?, h5]); clear ht5 hk5))
  go_wp2_with (go_at_call 78; refine (Try.Builder_String_any_f w2.heap.size w2.heap.size (evB EE) _ (.inr (unhide HT5).text) (unhide HT5).base).mono ?_; rintro e w6 ⟨rfl, _, hb6⟩; have HB6 : Hid (Below w.heap.size w w6) := hide ((unhide HB5).trans (hb6.mono (unhide HB2).size)); clear hb6)
  go_ret2
  exact ⟨rfl, unhide HB6⟩

theorem show_no {w : World} {base bA : Nat} {ns : List NodeM} {os : List OneM} {F : Nat → Prop} (hA : ArS w base bA ns F) (hs : Sim ns os) (x : Int) (hx : hasO os x = false) :
    Calls Try.prog 28 #[.pointer (some ⟨bA, 0, none⟩), .int .i64 x] w fun e w' => e = .returned (.tuple #[.string ⟨#[]⟩, .int .i64 6]) ∧ Below w.heap.size w w' := by
  have HN := hide ((node_no hA x (by rw [hs.hasM]; exact hx)))
  clear hA hs hx
  unfold nodeZ at HN
  go_enter Try.func28, Try.ntmps28
  set_option maxRecDepth 10000 in
  go_wp2_with (go_at_call 18; refine (unhide HN).mono ?_; rintro e w1 ⟨rfl, hb1⟩; have HB1 := hide hb1; have hz1 := hb1.size; clear hb1)
  go_ret2
  first
    | exact ⟨rfl, unhide HB1⟩
    | exact ⟨rfl, (unhide HB1).alloc hz1 _⟩

/-- Whatever is asked for. -/
def showS (os : List OneM) (x : Int) : ByteArray := bif hasO os x then ⟨(evB (showE os x.toNat)).toArray⟩ else ⟨#[]⟩
theorem show_any {w : World} {base bA : Nat} {ns : List NodeM} {os : List OneM} {F : Nat → Prop} (hA : ArS w base bA ns F) (hs : Sim ns os) (hso : SmallO os) (hl : os.length ≤ 900) (x : Int) :
    Calls Try.prog 28 #[.pointer (some ⟨bA, 0, none⟩), .int .i64 x] w fun e w' => e = .returned (.tuple #[.string (showS os x), .int .i64 (if hasO os x = true then 0 else 6)]) ∧ Below w.heap.size w w' := by
  unfold showS
  cases hx : hasO os x with
  | false => exact show_no hA hs x hx
  | true =>
    obtain ⟨i, o, rfl, ho⟩ := hasO_yes hx
    exact show_yes hA hs hso hl ho
theorem showS_alike {ns ns' : List NodeM} {os os' : List OneM} (h : Sim ns os) (h' : Sim ns' os') (x y : Int) (hs : SSI os os' x y = true) : showS os x = showS os' y := by
  unfold SSI at hs
  rw [Bool.and_eq_true, Bool.and_eq_true] at hs
  obtain ⟨⟨h1, h2⟩, h3⟩ := hs
  unfold showS
  rw [h1, h2]
  obtain ⟨i, o, rfl, ho⟩ := hasO_yes h1
  obtain ⟨j, p, rfl, hp⟩ := hasO_yes h2
  rw [Int.toNat_natCast, Int.toNat_natCast] at *
  rw [SS_some h ho hp, Bool.and_eq_true, Bool.and_eq_true] at h3
  have e : showE os i = showE os' j := by
    unfold showE kidsAt
    rw [ho, hp]
    exact allF_ev h3.1.2 (fun a _ b hab => EV_alike h h' _ a b 0 (Nat.le_refl _) hab)
  rw [e]
end Go.Proofs.Ytlbkoafeedlfaaa

namespace Go.Proofs.Ytlbkoafeedlfaaa

/-- A step of a script: the texts stay small, two nodes more at the most. -/
def SmStep (os os' : List OneM) : Prop := (SmallO os → SmallO os') ∧ os'.length ≤ os.length + 2
theorem SmStep.refl (os : List OneM) : SmStep os os := ⟨fun h => h, by omega⟩
theorem SmStep.add {os : List OneM} {q : OneM} (h : SmallN q) : SmStep os (addO os q).1 := by
  unfold addO
  split
  · refine ⟨fun hs o ho => ?_, by simp⟩
    rcases List.mem_append.1 ho with ho | ho
    · exact hs o ho
    · rw [List.mem_singleton.1 ho]; exact h
  · exact SmStep.refl _
theorem longS_no {s : ByteArray} (h : longS s = false) : s.size ≤ 1048576 := by
  unfold longS at h
  have := of_decide_eq_false h
  omega
theorem empty_small : (⟨#[]⟩ : ByteArray).size ≤ 1048576 := by decide
theorem SmStep.data (os : List OneM) (k : Int) (s : ByteArray) : SmStep os (dataO os k s).1 := by
  unfold dataO
  split
  · exact SmStep.refl _
  · rename_i h
    exact SmStep.add ⟨empty_small, longS_no (s := s) (by simpa using h), empty_small, by simp [dataQ, oneM], fun a ha => by simp [dataQ, oneM] at ha⟩
theorem SmStep.frag (os : List OneM) : SmStep os (fragO os).1 :=
  SmStep.add ⟨empty_small, empty_small, empty_small, by simp [oneM], fun a ha => by simp [oneM] at ha⟩
theorem SmStep.doc (os : List OneM) (n p s : ByteArray) : SmStep os (docO os n p s).1 := by
  unfold docO
  split
  · exact SmStep.refl _
  · rename_i h
    simp only [Bool.or_eq_true, not_or, Bool.not_eq_true] at h
    exact SmStep.add ⟨longS_no h.1.1, longS_no h.1.2, longS_no h.2, by simp [docQ, oneM], fun a ha => by simp [docQ, oneM] at ha⟩
theorem SmStep.elem (os : List OneM) (sp : Int) (n : ByteArray) (l : List AttrM) : SmStep os (elemO os sp n l).1 := by
  unfold elemO
  split
  · exact SmStep.refl _
  · split
    · exact SmStep.refl _
    · rename_i h
      unfold longE at h
      simp only [Bool.or_eq_true, not_or, Bool.not_eq_true] at h
      obtain ⟨⟨h1, h2⟩, h3⟩ := h
      have hl : l.length ≤ 1024 := by have := of_decide_eq_false h2; omega
      have ha : ∀ a ∈ l, a.name.size ≤ 1048576 ∧ a.val.size ≤ 1048576 := by
        intro a ha
        have := List.any_eq_false.1 h3 a ha
        unfold AttrM.long at this
        simp only [List.any_cons, List.any_nil, Bool.or_false, Bool.or_eq_true, not_or, Bool.not_eq_true] at this
        exact ⟨longS_no this.2.1, longS_no this.2.2⟩
      have hq : ∀ i : Int, SmallN { elemQ sp n l with inner := i } := fun i => ⟨longS_no h1, empty_small, empty_small, hl, ha⟩
      split
      · split
        · refine ⟨fun hs o ho => ?_, by simp⟩
          rcases List.mem_append.1 ho with ho | ho
          · exact hs o ho
          · simp only [List.mem_cons, List.not_mem_nil, or_false] at ho
            rcases ho with rfl | rfl
            · exact hq _
            · exact ⟨empty_small, empty_small, empty_small, by simp [oneM], fun a ha => by simp [oneM] at ha⟩
        · exact SmStep.refl _
      · exact SmStep.add (hq (-1))
theorem small_modify {os : List OneM} (i : Nat) (f : OneM → OneM) (hf : ∀ o, SmallN o → SmallN (f o)) (h : SmallO os) : SmallO (os.modify i f) := by
  intro q hq
  obtain ⟨k, hk⟩ := List.mem_iff_getElem?.1 hq
  rw [List.getElem?_modify] at hk
  cases ho : os[k]? with
  | none => rw [ho] at hk; simp at hk
  | some o =>
    rw [ho] at hk
    simp only [Option.map_eq_map, Option.map_some, Option.some.injEq] at hk
    have hs := h o (List.mem_of_getElem? ho)
    rw [← hk]
    split
    · exact hf o hs
    · exact hs
theorem SmStep.link (os : List OneM) (p c b : Int) : SmStep os (linkR os p c b) := by
  unfold linkR
  split
  · refine ⟨fun h => ?_, by rw [linkO_len]; omega⟩
    unfold linkO
    exact small_modify _ _ (fun o h => ⟨h.name, h.data, h.system, h.few, h.attrs⟩) (small_modify _ _ (fun o h => ⟨h.name, h.data, h.system, h.few, h.attrs⟩) h)
  · exact SmStep.refl _
theorem SmStep.unlink (os : List OneM) (c : Int) : SmStep os (unlinkR os c) := by
  unfold unlinkR
  split
  · refine ⟨fun h => ?_, by rw [unlinkO_len]; omega⟩
    unfold unlinkO
    exact small_modify _ _ (fun o h => ⟨h.name, h.data, h.system, h.few, h.attrs⟩) (small_modify _ _ (fun o h => ⟨h.name, h.data, h.system, h.few, h.attrs⟩) h)
  · exact SmStep.refl _
theorem small_new : SmallO [oneM 0] := by
  intro o ho
  rw [List.mem_singleton.1 ho]
  exact ⟨empty_small, empty_small, empty_small, by simp [oneM], fun a ha => by simp [oneM] at ha⟩
end Go.Proofs.Ytlbkoafeedlfaaa
