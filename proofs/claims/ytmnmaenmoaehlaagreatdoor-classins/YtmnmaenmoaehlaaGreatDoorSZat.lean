/-
  What a node is to the class: roles; what it may have of its own. A set of texts in memory; attributes that are plain, of unlike names.
-/
import Derived.Test.YtmnmaenmoaehlaaGreatDoorSZar
import Derived.Test.YtmnmaenmoaehlaaGreatDoorSZas
import Derived.ChangeMaps4
import Derived.WideLaws
namespace Go.Proofs.YtmnmaenmoaehlaaGreatDoor
open Go.RowKit Go.Lib

def roleNm (s : ByteArray) : Int :=
  if s.toList == [104, 116, 109, 108] then 2 else if s.toList == [104, 101, 97, 100] then 3 else if s.toList == [116, 105, 116, 108, 101] then 4 else if s.toList == [98, 111, 100, 121] then 5
  else if s.toList == [100, 105, 118] || s.toList == [115, 101, 99, 116, 105, 111, 110] || s.toList == [97, 114, 116, 105, 99, 108, 101] || s.toList == [109, 97, 105, 110] || s.toList == [97, 115, 105, 100, 101] then 6
  else if s.toList == [112] then 7 else if s.toList == [115, 112, 97, 110] then 8 else 0
def roleM (n : NodeM) : Int :=
  if n.kind == 0 then 1 else if n.kind == 2 then 9 else if n.kind == 3 then 10 else if n.kind == 1 && (n.space == 0 && n.inner == -1) then roleNm n.name else 0
/-- A node as a value. -/
def nodW (n : NodeM) (a : Option Addr) (cap : Nat) : Value := .agg #[.int .i64 n.kind, .int .i64 n.space, .string n.name, .slice a n.attrs.length cap, .string n.data, .string n.system, .int .i64 n.parent, .int .i64 n.first, .int .i64 n.last, .int .i64 n.prev, .int .i64 n.next, .int .i64 n.inner]

set_option maxHeartbeats 4000000 in
theorem roleNm_any (s : ByteArray) (w : World) : Calls Tryz.prog 60 #[.string s] w fun e w' => e = .returned (.int .i64 (roleNm s)) ∧ w' = w := by
  have HR : Hid (∃ r, roleNm s = r ∧ r = roleNm s) := hide ⟨_, rfl, rfl⟩
  obtain ⟨r, hr, hr2⟩ := unhide HR
  have HX := hide hr2
  rw [hr]
  clear hr hr2 HR
  unfold roleNm at HX
  go_enter Tryz.func60, Tryz.ntmps60
  go_wp2
  all_goals go_ret
  all_goals (refine ⟨?_, rfl⟩; rw [unhide HX]; first | (simp [*]; done) | (simp_all; done))

theorem isBare_any (n : NodeM) (a : Option Addr) (cap : Nat) (w : World) : Calls Tryz.prog 53 #[nodW n a cap] w fun e w' => e = .returned (.bool (n.attrs.length == 0)) ∧ Below w.heap.size w w' := by
  have HB := hide (below_new w (nodeB n a cap))
  unfold nodeB at HB
  unfold nodW
  have he : ((n.attrs.length : Int) == 0) = (n.attrs.length == 0) := by cases n.attrs.length <;> rfl
  rw [← he]
  clear he
  go_enter Tryz.func53, Tryz.ntmps53
  go_wp2
  go_ret
  exact ⟨rfl, unhide HB⟩

theorem never_any (n : NodeM) (a : Option Addr) (cap : Nat) (w : World) : Calls Tryz.prog 51 #[nodW n a cap] w fun e w' => e = .returned (.bool false) ∧ Below w.heap.size w w' := by
  have HB := hide (below_new w (nodeB n a cap))
  have HB2 := hide (Below.refl w.heap.size w)
  unfold nodeB at HB
  unfold nodW
  go_enter Tryz.func51, Tryz.ntmps51
  go_wp2
  go_ret
  exact ⟨rfl, by first | exact unhide HB | exact unhide HB2⟩

theorem roleNm_cases (s : ByteArray) : roleNm s = 0 ∨ (2 ≤ roleNm s ∧ roleNm s ≤ 8) := by
  unfold roleNm
  repeat' split
  all_goals simp
theorem roleM_range (n : NodeM) : 0 ≤ roleM n ∧ roleM n ≤ 10 := by
  have := roleNm_cases n.name
  unfold roleM
  repeat' split
  all_goals omega

set_option maxHeartbeats 1000000 in
theorem roleOf_any (n : NodeM) (a : Option Addr) (cap : Nat) (w : World) : Calls Tryz.prog 25 #[nodW n a cap] w fun e w' => e = .returned (.int .i64 (roleM n)) ∧ Below w.heap.size w w' := by
  have HB := hide (below_new w (nodeB n a cap))
  have HN := hide (fun W => roleNm_any n.name W)
  unfold nodeB at HB
  unfold nodW roleM
  cases h0 : (n.kind == 0)
  · cases h2 : (n.kind == 2)
    · cases h3 : (n.kind == 3)
      · cases h1 : (n.kind == 1)
        · go_enter Tryz.func25, Tryz.ntmps25
          go_wp2
          go_ret
          exact ⟨rfl, unhide HB⟩
        · cases hs : (n.space == 0)
          · go_enter Tryz.func25, Tryz.ntmps25
            go_wp2
            go_ret
            exact ⟨rfl, unhide HB⟩
          · cases hi : (n.inner == -1)
            · go_enter Tryz.func25, Tryz.ntmps25
              go_wp2
              go_ret
              exact ⟨rfl, unhide HB⟩
            · go_enter Tryz.func25, Tryz.ntmps25
              go_wp2_with (go_at_call 60; refine ((unhide HN) _).mono ?_; rintro e w1 ⟨rfl, hw⟩; rw [hw]; clear hw)
              go_ret
              exact ⟨rfl, unhide HB⟩
      · go_enter Tryz.func25, Tryz.ntmps25
        go_wp2
        go_ret
        exact ⟨rfl, unhide HB⟩
    · go_enter Tryz.func25, Tryz.ntmps25
      go_wp2
      go_ret
      exact ⟨rfl, unhide HB⟩
  · go_enter Tryz.func25, Tryz.ntmps25
    go_wp2
    go_ret
    exact ⟨rfl, unhide HB⟩

/-- A text of the class has something, and is plain. -/
def okText (s : ByteArray) : Bool := !(s.toList.isEmpty) && plainU s.data.toList
theorem isPlainText_any (n : NodeM) (a : Option Addr) (cap : Nat) (w : World) (hs : n.data.size < 4294967281) (hg : GV w) : Calls Tryz.prog 56 #[nodW n a cap] w fun e w' => e = .returned (.bool (okText n.data)) ∧ Below w.heap.size w w' := by
  have HB := hide (below_new w (nodeB n a cap))
  have HG := hide (fun W hb => cplain_any n.data W hs (hg.below hb))
  clear hg
  unfold nodeB at HB
  unfold nodW okText
  cases he : n.data.toList.isEmpty
  · go_enter Tryz.func56, Tryz.ntmps56
    go_wp2_with (go_at_call 81; refine ((unhide HG) _ (unhide HB)).mono ?_; rintro e w1 ⟨rfl, hb⟩; have HB2 := hide ((unhide HB).trans (hb.mono (unhide HB).size)); clear hb)
    go_ret
    exact ⟨rfl, unhide HB2⟩
  · go_enter Tryz.func56, Tryz.ntmps56
    go_wp2
    go_ret
    exact ⟨rfl, unhide HB⟩
end Go.Proofs.YtmnmaenmoaehlaaGreatDoor

namespace Go.Proofs.YtmnmaenmoaehlaaGreatDoor
open Go.RowKit Go.Lib Go.MapKept

theorem str_of (n : ByteArray) : (⟨n.data.toList.toArray⟩ : ByteArray) = n := by cases n; simp
def addN (ks : List (List UInt8)) (n : List UInt8) : List (List UInt8) := if n ∈ ks then ks else ks ++ [n]
/-- A map of texts to nothing. -/
def SetM (w : World) (m : Nat) (ks : List (List UInt8)) : Prop :=
  ∃ es clock, w.heap[m]? = some (.map es clock) ∧ es.toList.map (·.key) = ks.map (fun l => Value.string ⟨l.toArray⟩) ∧ ks.Nodup
section
variable {w w' : World} {m : Nat} {ks : List (List UInt8)}
theorem SetM.of_block (h : SetM w m ks) (hb : w'.heap[m]? = w.heap[m]?) : SetM w' m ks := by
  obtain ⟨es, clock, h1, h2⟩ := h
  exact ⟨es, clock, hb.trans h1, h2⟩
theorem SetM.isKey {es : Array MapEntry} (h : es.toList.map (·.key) = ks.map (fun l => Value.string ⟨l.toArray⟩)) : ∀ x ∈ es.toList, IsKey .string x.key := by
  intro x hx
  have : x.key ∈ ks.map (fun l => Value.string ⟨l.toArray⟩) := by rw [← h]; exact List.mem_map.2 ⟨x, hx, rfl⟩
  obtain ⟨s, _, e⟩ := List.mem_map.1 this
  rw [← e]
  trivial
theorem setB_heap {w : World} {m : Nat} {o o' : Obj} (h : w.heap[m]? = some o) : (Go.ChangeMaps.setBlock w m o').heap[m]? = some o' := by
  have hlt : m < w.heap.size := (Array.getElem?_eq_some_iff.1 h).1
  simp [Go.ChangeMaps.setBlock, hlt]
theorem setB_other {w : World} {m k : Nat} {o' : Obj} (h : k ≠ m) : (Go.ChangeMaps.setBlock w m o').heap[k]? = w.heap[k]? := by
  simp [Go.ChangeMaps.setBlock, Ne.symm h]
theorem setB_below {w0 w : World} {B m : Nat} {o' : Obj} (h : Below B w0 w) (hm : B ≤ m) : Below B w0 (Go.ChangeMaps.setBlock w m o') := by
  refine ⟨h.os, h.tape, h.output, by simpa [Go.ChangeMaps.setBlock] using h.size, fun k hk => ?_⟩
  rw [setB_other (by omega)]
  exact h.block k hk
theorem SetM.put (h : SetM w m ks) (n : ByteArray) : ∃ o, (Instr.mapUpdate 126 (.map (some m)) (.string n) (.agg #[])).run Tryz.prog w = .ok () (Go.ChangeMaps.setBlock w m o) ∧ SetM (Go.ChangeMaps.setBlock w m o) m (addN ks n.data.toList) := by
  obtain ⟨es, clock, hb, hes, hnd⟩ := h
  have hkey : IsKey .string (.string n) := trivial
  rcases findNow_spec hkey es.toList 0 (SetM.isKey hes) with ⟨h1, h2⟩ | ⟨j, e0, h1, h2, h3⟩
  · have hno : n.data.toList ∉ ks := by
      intro hn
      have : Value.string n ∈ es.toList.map (·.key) := by rw [hes]; exact List.mem_map.2 ⟨_, hn, by rw [str_of]⟩
      obtain ⟨x, hx, hk⟩ := List.mem_map.1 this
      exact h2 x hx hk
    refine ⟨.map (es.push ⟨.string n, .agg #[], clock⟩) (clock + 1), ?_, ⟨_, _, setB_heap hb, ?_, ?_⟩⟩
    · simp [Instr.mapUpdate, run_underlying Tryz.underlying126, MapKept.run_getObj_map hb, run_checkKey Tryz.underlying9 hkey, run_findKey Tryz.underlying9 h1, MapKept.run_setObj_map _ hb, Result.andThen, Go.ChangeMaps.setBlock]
    · unfold addN
      rw [if_neg hno]
      simp [hes]
    · unfold addN
      rw [if_neg hno]
      exact List.nodup_append.2 ⟨hnd, by simp, fun a ha b hb e => by simp at hb; subst hb; subst e; exact hno ha⟩
  · have hj : es[j]? = some e0 := by simpa using h2
    have hn : n.data.toList ∈ ks := by
      have : e0.key ∈ ks.map (fun l => Value.string ⟨l.toArray⟩) := by rw [← hes]; exact List.mem_map.2 ⟨e0, List.mem_of_getElem? h2, rfl⟩
      rw [h3] at this
      obtain ⟨s, hs, e⟩ := List.mem_map.1 this
      injection e with e
      rw [← e]
      exact hs
    have hkeys : (es.modify j (fun e' => { e' with key := .string n, val := .agg #[] })).toList.map (·.key) = es.toList.map (·.key) := by
      apply List.ext_getElem?
      intro i
      simp only [List.getElem?_map, Array.getElem?_toList, Array.getElem?_modify]
      by_cases hij : j = i
      · subst hij
        simp [hj, h3]
      · simp [hij]
    refine ⟨.map (es.modify j (fun e' => { e' with key := .string n, val := .agg #[] })) clock, ?_, ⟨_, _, setB_heap hb, ?_, ?_⟩⟩
    · simp [Instr.mapUpdate, run_underlying Tryz.underlying126, MapKept.run_getObj_map hb, run_checkKey Tryz.underlying9 hkey, run_findKey Tryz.underlying9 h1, hj, h3, run_keyThatStays hkey, MapKept.run_setObj_map _ hb, Result.andThen, Go.ChangeMaps.setBlock]
    · unfold addN
      rw [if_pos hn, hkeys, hes]
    · unfold addN
      rw [if_pos hn]
      exact hnd
end

def okAttr (x : AttrM) : Bool := x.space == 0 && x.pre.toList.isEmpty && nameU x.name.data.toList && plainU x.val.data.toList
def namesN (ks : List (List UInt8)) (l : List AttrM) : List (List UInt8) := l.foldl (fun ks x => addN ks x.name.data.toList) ks
def attrsOk (l : List AttrM) : Bool := l.all okAttr && decide ((l.map (·.name.data.toList)).Nodup)

theorem addN_len (ks : List (List UInt8)) (n : List UInt8) : (addN ks n).length ≤ ks.length + 1 := by
  unfold addN; split <;> simp
theorem namesN_len : ∀ (l : List AttrM) (ks : List (List UInt8)), (namesN ks l).length ≤ ks.length + l.length
  | [], ks => by simp [namesN]
  | x :: t, ks => by
    have h1 := namesN_len t (addN ks x.name.data.toList)
    have h2 := addN_len ks x.name.data.toList
    show (namesN (addN ks x.name.data.toList) t).length ≤ _
    simp only [List.length_cons]
    omega
theorem namesN_all : ∀ (l : List AttrM) (ks : List (List UInt8)), (namesN ks l).length = ks.length + l.length ↔ ((l.map (·.name.data.toList)).Nodup ∧ ∀ x ∈ l, x.name.data.toList ∉ ks)
  | [], ks => by simp [namesN]
  | x :: t, ks => by
    show (namesN (addN ks x.name.data.toList) t).length = ks.length + (t.length + 1) ↔ _
    by_cases h : x.name.data.toList ∈ ks
    · have h1 := namesN_len t (addN ks x.name.data.toList)
      have h2 : addN ks x.name.data.toList = ks := by unfold addN; rw [if_pos h]
      rw [h2] at h1 ⊢
      refine ⟨fun e => by omega, fun e => absurd h (e.2 x (by simp))⟩
    · have h2 : addN ks x.name.data.toList = ks ++ [x.name.data.toList] := by unfold addN; rw [if_neg h]
      have ih := namesN_all t (ks ++ [x.name.data.toList])
      rw [h2]
      rw [show ks.length + (t.length + 1) = (ks ++ [x.name.data.toList]).length + t.length by simp; omega, ih]
      simp only [List.map_cons, List.nodup_cons, List.mem_append, List.mem_cons, List.not_mem_nil, or_false, not_or]
      refine ⟨fun ⟨a, b⟩ => ⟨⟨fun hm => ?_, a⟩, fun y hy => ?_⟩, fun ⟨⟨a, b⟩, c⟩ => ⟨b, fun y hy => ⟨c y (.inr hy), fun e => a ?_⟩⟩⟩
      · obtain ⟨y, hy, e⟩ := List.mem_map.1 hm
        exact (b y hy).2 e
      · rcases hy with rfl | hy
        · exact h
        · exact (b y hy).1
      · exact List.mem_map.2 ⟨y, hy, e⟩
theorem names_ok (l : List AttrM) : decide ((l.map (·.name.data.toList)).Nodup) = decide ((namesN [] l).length = l.length) := by
  have := namesN_all l []
  simp only [List.length_nil, Nat.zero_add, List.not_mem_nil, not_false_eq_true, implies_true, and_true] at this
  exact decide_eq_decide.2 this.symm

set_option maxHeartbeats 4000000 in
set_option maxRecDepth 100000 in
theorem hasPlain_any (n : NodeM) (a : Option Addr) (cap : Nat) (w : World) (hl : AttrsIn w a n.attrs) (hlen : n.attrs.length ≤ 1024) (hsm : ∀ x ∈ n.attrs, x.name.size < 4294967281 ∧ x.val.size < 4294967281) (hg : GV w) :
    Calls Tryz.prog 55 #[nodW n a cap] w fun e w' => e = .returned (.bool (attrsOk n.attrs)) ∧ Below w.heap.size w w' := by
  have hmk := fun (W : World) (k : Int) => (by simp [Instr.makeMap, run_underlying Tryz.underlying126, asInt, asIntOf, Result.andThen] : (Instr.makeMap 126 (some (.int .i64 k))).run Tryz.prog W = .ok (.map (some W.heap.size)) (W.alloc (.map #[] 0)))
  have hb0 := (below_new w (nodeB n a cap)).alloc (Nat.le_of_lt (by simp)) (.map #[] 0)
  have hav : ∀ W, Below (w.heap.size + 1) ((w.alloc (nodeB n a cap)).alloc (.map #[] 0)) W → W.cell? ⟨w.heap.size, 3, none⟩ = some (.slice a n.attrs.length cap) := fun W hb => cell_row _ _ 3 _ _ _ ((hb.block _ (by omega)).trans ((Below.heap_alloc _ _ _ (by simp)).trans (heap_alloc_new w _)))
  have HAV := hide hav
  have HB0 := hide hb0
  have hs0 : SetM ((w.alloc (nodeB n a cap)).alloc (.map #[] 0)) (w.heap.size + 1) [] := ⟨#[], 0, by have := World.alloc_heap_new (w.alloc (nodeB n a cap)) (.map #[] 0); rwa [World.size_alloc] at this, rfl, by simp⟩
  have HS0 := hide hs0
  clear hav hb0 hs0
  have HG := hide hg
  have HL := hide hl
  have HSM := hide hsm
  clear hg hl hsm
  have hc3 := unhide HAV _ (Below.refl _ _)
  unfold nodeB at HB0 HAV HS0 hc3
  unfold nodW
  go_enter Tryz.func55, Tryz.ntmps55
  go_wp2
  go_loopg [13] n.attrs.length (fun g v13 wx => ∃ i : Nat, i + g = n.attrs.length ∧ v13 = .int .i64 i ∧ Below w.heap.size w wx ∧ Below (w.heap.size + 1) ((w.alloc (nodeB n a cap)).alloc (.map #[] 0)) wx ∧ SetM wx (w.heap.size + 1) (namesN [] (n.attrs.take i)) ∧ (n.attrs.take i).all okAttr = true)
  case atStart => exact ⟨0, by omega, rfl, unhide HB0, Below.refl _ _, unhide HS0, rfl⟩
  case round =>
    obtain ⟨i, hig, rfl, hb, hb1, hset, hall⟩ := hrel
    have hc3x := unhide HAV _ hb1
    by_cases hi : i < n.attrs.length
    · have hiz : (i : Int) < (n.attrs.length : Int) := by omega
      obtain ⟨x, hx⟩ : ∃ x, n.attrs[i]? = some x := ⟨_, List.getElem?_eq_getElem hi⟩
      obtain ⟨b, off, rfl, c0, c1, c2, c3⟩ := ((unhide HL).below hb).cells i x hx
      have HB := hide hb
      have HB1 := hide hb1
      have HSET := hide hset
      have HALL := hide hall
      have hbig := unhide HSM x (List.mem_of_getElem? hx)
      have HX := hide hx
      have hlt0 : w.heap.size + 1 < wr.heap.size := by
        obtain ⟨es, ck, hh, _⟩ := hset
        exact (Array.getElem?_eq_some_iff.1 hh).1
      have HA : Hid (∀ W, Below (wr.alloc (.cells #[.int .i64 x.space, .string x.pre, .string x.name, .string x.val] 93)).heap.size (wr.alloc (.cells #[.int .i64 x.space, .string x.pre, .string x.name, .string x.val] 93)) W → W.cell? ⟨wr.heap.size, 2, none⟩ = some (.string x.name) ∧ W.cell? ⟨wr.heap.size, 3, none⟩ = some (.string x.val)) := hide (fun W hbb => ⟨cell_row _ _ 2 _ _ _ ((hbb.block _ (by simp)).trans (heap_alloc_new wr _)), cell_row _ _ 3 _ _ _ ((hbb.block _ (by simp)).trans (heap_alloc_new wr _))⟩)
      have HW : Hid (Below wr.heap.size wr (wr.alloc (.cells #[.int .i64 x.space, .string x.pre, .string x.name, .string x.val] 93))) := hide ((Below.refl _ _).alloc (Nat.le_refl _) _)
      have HPN := hide (fun W => pname_any x.name W (by omega))
      have HPV := hide (fun W hbb => cplain_any x.val W hbig.2 ((unhide HG).below hbb))
      have HNO : Hid (okAttr x = false → attrsOk n.attrs = false) := hide (fun h => by
        unfold attrsOk
        rw [show n.attrs.all okAttr = false from List.all_eq_false.2 ⟨x, List.mem_of_getElem? (unhide HX), by rw [h]; exact Bool.false_ne_true⟩]
        rfl)
      clear hb hb1 hset hall hx hbig
      cases h1 : (x.space == 0)
      · have h1b : (x.space != 0) = true := by simp [bne, h1]
        have HR := hide (unhide HNO (by unfold okAttr; rw [h1]; rfl))
        clear h1
        go_wp2
        go_ret
        exact ⟨by rw [unhide HR]; rfl, (unhide HB).trans ((unhide HW).mono (unhide HB).size)⟩
      · have h1b : (x.space != 0) = false := by simp [bne, h1]
        cases h2 : x.pre.toList.isEmpty
        · have HR := hide (unhide HNO (by unfold okAttr; rw [h1, h2]; rfl))
          clear h1
          go_wp2
          go_ret
          exact ⟨by rw [unhide HR]; rfl, (unhide HB).trans ((unhide HW).mono (unhide HB).size)⟩
        · cases h3 : nameU x.name.data.toList
          · have HR := hide (unhide HNO (by unfold okAttr; rw [h1, h2, h3]; rfl))
            clear h1
            go_wp2_with (go_at_call 80; refine ((unhide HPN) _).mono ?_; rintro e w1 ⟨rfl, hbn⟩; rw [h3]; have HBN := hide hbn; obtain ⟨d2, d3⟩ := (unhide HA) _ hbn; clear hbn)
            go_ret
            exact ⟨by rw [unhide HR]; rfl, (unhide HB).trans (((unhide HW).trans ((unhide HBN).mono (unhide HW).size)).mono (unhide HB).size)⟩
          · cases h4 : plainU x.val.data.toList
            · have HR := hide (unhide HNO (by unfold okAttr; rw [h1, h2, h3, h4]; rfl))
              clear h1
              go_wp2_with (first
                | (go_at_call 80; refine ((unhide HPN) _).mono ?_; rintro e w1 ⟨rfl, hbn⟩; rw [h3]; have HBN := hide ((unhide HB).trans (((unhide HW).trans (hbn.mono (unhide HW).size)).mono (unhide HB).size)); obtain ⟨d2, d3⟩ := (unhide HA) _ hbn; clear hbn)
                | (go_at_call 81; refine ((unhide HPV) _ (unhide HBN)).mono ?_; rintro e w2 ⟨rfl, hbn⟩; rw [h4]; have HBN2 := hide ((unhide HBN).trans (hbn.mono (unhide HBN).size)); clear hbn))
              go_ret
              exact ⟨by rw [unhide HR]; rfl, unhide HBN2⟩
            · have HOK : Hid (okAttr x = true) := hide (by unfold okAttr; rw [h1, h2, h3, h4]; rfl)
              clear h1
              go_wp2_with (first
                | (go_at_call 80; refine ((unhide HPN) _).mono ?_; rintro e w1 ⟨rfl, hbn⟩; rw [h3]; have HBA := hide hbn; have HBN := hide ((unhide HB).trans (((unhide HW).trans (hbn.mono (unhide HW).size)).mono (unhide HB).size)); obtain ⟨d2, d3⟩ := (unhide HA) _ hbn; clear hbn)
                | (go_at_call 81; refine ((unhide HPV) _ (unhide HBN)).mono ?_; rintro e w2 ⟨rfl, hbn⟩; rw [h4]; have HBN2 := hide ((unhide HBN).trans (hbn.mono (unhide HBN).size)); have hbb := ((unhide HBA).trans (hbn.mono (unhide HBA).size)); obtain ⟨d2', d3'⟩ := (unhide HA) _ hbb; have hwr2 := (unhide HW).trans (hbb.mono (unhide HW).size); have HWR := hide hwr2; obtain ⟨o, hpo, hso⟩ := ((unhide HSET).of_block (hwr2.block _ hlt0)).put x.name; have HSO := hide hso; clear hbn hbb hwr2 hso))
              go_roundg (gk - 1)
              case measure => omega
              case rel =>
                have htk : n.attrs.take (i + 1) = n.attrs.take i ++ [x] := by rw [List.take_add_one, unhide HX]; rfl
                refine ⟨i + 1, by omega, by go_num, setB_below (unhide HBN2) (by omega), setB_below ((unhide HB1).trans ((unhide HWR).mono (by omega))) (Nat.le_refl _), ?_, ?_⟩
                · have := unhide HSO
                  rw [htk]
                  unfold namesN at this ⊢
                  rw [List.foldl_append]
                  exact this
                · rw [htk, List.all_append, unhide HALL]
                  simp [unhide HOK]
    · obtain rfl : i = n.attrs.length := by omega
      have hiz : ¬ ((n.attrs.length : Int) < (n.attrs.length : Int)) := by omega
      rw [List.take_length] at hset hall
      obtain ⟨es, ck, hh, hks, _⟩ := hset
      have hsz : es.size = (namesN [] n.attrs).length := by
        have := congrArg List.length hks
        simpa using this
      have HR : Hid (attrsOk n.attrs = decide ((es.size : Int) = (n.attrs.length : Int))) := hide (by
        unfold attrsOk
        rw [hall, names_ok, ← hsz, Bool.true_and]
        exact decide_eq_decide.2 ⟨fun h => by omega, fun h => by omega⟩)
      have hln := fun (ty : TypeId) => run_len_map wr 126 ty (w.heap.size + 1) es ck (P := Tryz.prog) (by simp [Program.mapKeyOf, Program.mapElemOf, Tryz.underlying126]) hh
      have HB := hide hb
      clear hb hb1 hall hks hsz
      cases hq : ((es.size : Int) == (n.attrs.length : Int))
      · have HR2 : Hid (attrsOk n.attrs = false) := hide (by rw [unhide HR]; exact decide_eq_false (by simpa using hq))
        go_wp2
        go_ret
        exact ⟨by rw [unhide HR2]; rfl, unhide HB⟩
      · have HR2 : Hid (attrsOk n.attrs = true) := hide (by rw [unhide HR]; exact decide_eq_true (by simpa using hq))
        go_wp2
        go_ret
        exact ⟨by rw [unhide HR2]; rfl, unhide HB⟩
end Go.Proofs.YtmnmaenmoaehlaaGreatDoor
