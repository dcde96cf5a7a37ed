/-
  Copies of bytes; the walk of SniffPlain.
-/
import Derived.Test.YtmikcdmlhocgbaaDoorTd
import Derived.Deep.LoopGhost
import Derived.Deep.AppendLies
import Derived.Deep.AppendSrc
import Derived.Deep.Upon
import Derived.OwnWalk
namespace Go.Proofs.YtmikcdmlhocgbaaDoor
open Go.ChangeShapes Go.WideShapes Go.RowKit Go.Lib

/-- A list, whatever its length, appended to an empty one. -/
theorem cp_append {P : Program} {w : World} {ops : Array Oper} {rest : List Oper} {o : Oper} {a : Act} {Q : Exit → Act → World → Prop} (hgd : o.guard = none) (s x : Operand) (t : TypeId)
    (ho : o.op = .call { callee := .builtin .append, args := #[s, x], argTypes := #[t, t] })
    (e : TypeId) (i : TypeInfo) (z : Value) (size bytes : Nat) (ht : P.underlying t = some (.slice e)) (hi : P.info? e = some i) (hz : i.zero = some z)
    (hsize : i.size = size) (hby : i.bytes = bytes) (hzs : z.cells.size = size) (hsz : 0 < size)
    (k : Nat) (hs : a.eval s = .slice (some ⟨k, 0, none⟩) 0 0) (hk : w.heap[k]? = some (.cells #[] e (0, 0)))
    (src : Option Addr) (m c : Nat) (news : List Value) (hx : a.eval x = .slice src m c) (hl : news.length = m * size) (hnews : ∀ b off, src = some ⟨b, off, none⟩ → ∀ j u, news[j]? = some u → w.cell? ((⟨b, off, none⟩ : Addr).add j) = some u)
    (hsrc : 0 < m → ∃ b off, src = some ⟨b, off, none⟩) (h1 : ∀ u ∈ news, u.oneCell' = true) (h63 : m ≤ maxLen) (hbytes : m * bytes ≤ 140737488355328)
    (h : ∀ g cap w', w'.ownsRow k e size (.slice (some ⟨g, 0, none⟩) m cap) m news → w.grownBy w' (some k) → (g = k ∨ g = w.heap.size) → g < w'.heap.size → wpList P ops Q rest (a.put o.dst (.slice (some ⟨g, 0, none⟩) m cap)) w') : wpList P ops Q (o :: rest) a w := by
  have hklt := lt_of_block hk
  have hown : w.ownsRow k e size (.slice (some ⟨k, 0, none⟩) 0 0) 0 [] := ⟨by simp, .inr ⟨k, 0, #[], rfl, Nat.le_refl _, hk, Nat.le_refl _, by simp [maxLen], by simp, by simp⟩⟩
  by_cases hm : 0 < m
  · obtain ⟨b, off, rfl⟩ := hsrc hm
    refine wpList_append_lies w hgd s x t ho k e i z size bytes ht hi hz hsize hby hzs hsz _ 0 [] hs hown ⟨b, off, none⟩ m c news hx hl (hnews b off rfl) h1 hm (by omega) (by simpa using hbytes) (Nat.le_of_lt hklt) _ rfl ?_
    intro g cap w' h2 h3 h4 h5
    simp only [Nat.zero_add, List.nil_append] at h2 ⊢
    refine h g cap w' h2 h3 (h4.imp (fun e => ?_) id) h5
    simp [Value.ownBlock] at e
    exact e.symm
  · obtain rfl : m = 0 := by omega
    obtain rfl : news = [] := List.eq_nil_of_length_eq_zero (by omega)
    have hS : Src P i.size t (.slice src 0 c) 0 [] w := by
      cases src with
      | none => exact Src.ofNil w ht c
      | some ad => exact Src.ofSlice w ht ad 0 c [] (by simp) (fun j u hu => by simp at hu) (by simp)
    have hr := run_append_nothing (P := P) w t t o.type e i ht hi (some ⟨k, 0, none⟩) 0 0 (Nat.le_refl _) (.slice src 0 c) hS
    refine wpList_plain hgd fun K hK => ?_
    unfold Oper.wp execOp
    simp only [ho, resolve, invoke, builtin, Sem.run_bind, Sem.run_pure, Result.andThen_ok, List.map_toArray, List.map_cons, List.map_nil, hs, hx, hr]
    exact hK _ _ (h k 0 w hown ⟨rfl, rfl, rfl, Nat.le_refl _, fun _ _ _ => rfl⟩ (.inl rfl) hklt)

theorem cp_cap {w : World} {B e s n g cap : Nat} {cs : List Value} (h : w.ownsRow B e s (.slice (some ⟨g, 0, none⟩) n cap) n cs) : n ≤ cap := by
  rcases h.2 with ⟨h', _⟩ | ⟨g1, cap1, cur, h', _, _, hle, _⟩
  · simp at h'
  · simp at h'
    obtain ⟨_, rfl⟩ := h'
    exact hle


theorem bytes_size {H : Type} {enc : TypeId × Value → H} {W : World} {spare : Nat → Bool} {held : Bool} {a : Option Addr} {len cap : Nat} {d : DataW H} {ps : List MemPlace}
    (h : DataW.Trod enc Tryd.prog W 0 spare held 22 (.slice a len cap) d ps) : len ≤ cap ∧ (len = 0 ∨ ∃ elems rest, d = .slice elems rest ∧ elems.length = len) := by
  obtain ⟨fuel, hf⟩ := h
  rcases Go.Deep.open_slice Tryd.underlying22 hf with ⟨hcs, _⟩ | ⟨x, l, c, m, n, D, Pl, hcs, _, hlc, hcm, hm, hx, hel⟩
  · simp [Value.cells] at hcs
    obtain ⟨rfl, rfl, rfl⟩ := hcs
    exact ⟨Nat.le_refl _, .inl rfl⟩
  · simp [Value.cells] at hcs
    obtain ⟨rfl, rfl, rfl⟩ := hcs
    injection hx with hd _
    exact ⟨hlc, .inr ⟨_, _, hd, by simp⟩⟩

theorem info5 : (Tryd.prog.info? 5).map (fun i => (i.zero, i.size, i.bytes)) = some (some (.int .u8 0), 1, 1) := by kernel_rfl
def bytesV (l : List UInt8) : List Value := l.map fun c => Value.int .u8 (c.toNat : Int)
structure Wr (w wx : World) (g cap : Nat) (l : List UInt8) : Prop where
  row : ∃ cur : Array Value, wx.heap[g]? = some (.cells cur 5 (0, 0)) ∧ ∀ (k : Nat) (c : UInt8), l[k]? = some c → cur[k]? = some (Value.int .u8 (c.toNat : Int))
  below : Below w.heap.size w wx
  new : w.heap.size ≤ g
  room : l.length ≤ cap
theorem Wr.cell {w wx : World} {g cap : Nat} {l : List UInt8} (h : Wr w wx g cap l) {k : Nat} (hk : k < l.length) : wx.cell? ⟨g, k, none⟩ = some (.int .u8 (l[k].toNat : Int)) ∧ wx.frozen? ⟨g, k, none⟩ = false := by
  obtain ⟨cur, hb, hc⟩ := h.row
  exact ⟨by simp [World.cell?, hb, hc k _ (List.getElem?_eq_getElem hk)], by simp [World.frozen?, hb]⟩
theorem Wr.set {w wx : World} {g cap : Nat} {l : List UInt8} (h : Wr w wx g cap l) {k : Nat} (hk : k < l.length) (v : UInt8) : Wr w (wx.setCell ⟨g, k, none⟩ (.int .u8 (v.toNat : Int))) g cap (l.set k v) := by
  obtain ⟨cur, hb, hc⟩ := h.row
  refine ⟨⟨cur.setIfInBounds k (.int .u8 (v.toNat : Int)), by simp [World.setCell, Array.getElem?_modify, hb], fun j c hj => ?_⟩, h.below.setCell h.new _, h.new, by rw [List.length_set]; exact h.room⟩
  by_cases e : k = j
  · subst e
    rw [List.getElem?_set_self hk] at hj
    cases hj
    have := (Array.getElem?_eq_some_iff.1 (hc k _ (List.getElem?_eq_getElem hk))).1
    simp [this]
  · rw [List.getElem?_set_ne e] at hj
    rw [Array.getElem?_setIfInBounds_ne e]
    exact hc j c hj
theorem Wr.bytes {w wx : World} {g cap : Nat} {l : List UInt8} (h : Wr w wx g cap l) : BytesIn wx (some ⟨g, 0, none⟩) l := ⟨fun i x hi => ⟨g, 0, rfl, by
  have hlt := (List.getElem?_eq_some_iff.1 hi).1
  have := (h.cell hlt).1
  rw [Nat.zero_add, this]
  have : l[i] = x := (List.getElem?_eq_some_iff.1 hi).2
  rw [this]⟩⟩
theorem wr_of {w w0 w' : World} {k g cap : Nat} {l : List UInt8} (ho : w'.ownsRow k 5 1 (.slice (some ⟨g, 0, none⟩) l.length cap) l.length (bytesV l)) (hb : Below w.heap.size w w0) (hk : w.heap.size ≤ k) (hgr : w0.grownBy w' (some k)) : Wr w w' g cap l := by
  rcases ho.2 with ⟨h', _⟩ | ⟨g1, cap1, cur, h', hkg, hb1, hle, _, hcs, htk⟩
  · simp at h'
  · simp at h'
    obtain ⟨rfl, rfl⟩ := h'
    refine ⟨⟨cur, hb1, fun j c hj => ?_⟩, hb.grown hgr hb.size (fun j hj => ?_), Nat.le_trans hk hkg, hle⟩
    · have hlt := (List.getElem?_eq_some_iff.1 hj).1
      have h1 : (bytesV l)[j]? = some (.int .u8 (c.toNat : Int)) := by unfold bytesV; rw [List.getElem?_map, hj]; rfl
      rw [← htk, Nat.mul_one, List.getElem?_take, if_pos hlt] at h1
      simpa using h1
    · have : k = j := Option.some.inj hj
      omega

theorem news_of {w : World} {a : Option Addr} {l : List UInt8} (h : BytesIn w a l) : ∀ b off, a = some ⟨b, off, none⟩ → ∀ j u, (bytesV l)[j]? = some u → w.cell? ((⟨b, off, none⟩ : Addr).add j) = some u := by
  intro b off e j u hj
  unfold bytesV at hj
  rw [List.getElem?_map] at hj
  cases hl : l[j]? with
  | none => rw [hl] at hj; cases hj
  | some x =>
    rw [hl] at hj
    cases hj
    obtain ⟨b', off', e', hc⟩ := h.cells j x hl
    rw [e] at e'
    cases e'
    have ad : (⟨b, off, none⟩ : Addr).add j = ⟨b, off + j, none⟩ := by unfold Addr.add; split <;> simp_all
    rw [ad]
    exact hc
theorem bytes_one (l : List UInt8) : ∀ u ∈ bytesV l, u.oneCell' = true := by
  intro u hu
  unfold bytesV at hu
  obtain ⟨c, _, rfl⟩ := List.mem_map.1 hu
  simp [Value.oneCell']

def fix (c : UInt8) : UInt8 := if c = 60 then 62 else c
def fixN (l : List UInt8) (i : Nat) : List UInt8 := (l.take i).map fix ++ l.drop i
theorem fixN_len (l : List UInt8) (i : Nat) : (fixN l i).length = l.length := by simp [fixN]; omega
theorem fixN_at {l : List UInt8} {i : Nat} (hi : i < l.length) : (fixN l i)[i]? = some l[i] := by
  unfold fixN
  rw [List.getElem?_append_right (by simp; omega)]
  simp
  rw [show i - min i l.length = 0 by omega]
  simp [hi]
theorem fixN_succ {l : List UInt8} {i : Nat} (hi : i < l.length) : fixN l (i + 1) = (fixN l i).set i (fix l[i]) := by
  apply List.ext_getElem?
  intro j
  unfold fixN
  by_cases e : j = i
  · subst e
    rw [List.getElem?_set_self (by simp; omega), List.getElem?_append_left (by simp; omega)]
    simp [hi]
  · rw [List.getElem?_set_ne (Ne.symm e)]
    by_cases hj : j < i
    · rw [List.getElem?_append_left (by simp; omega), List.getElem?_append_left (by simp; omega)]
      simp [List.getElem?_take]
      rw [if_pos hj, if_pos (by omega)]
    · rw [List.getElem?_append_right (by simp; omega), List.getElem?_append_right (by simp; omega)]
      simp
      congr 1
      omega
theorem fixN_all (l : List UInt8) : ∀ c ∈ fixN l l.length, c ≠ 60 := by
  intro c hc
  unfold fixN at hc
  simp at hc
  obtain ⟨d, _, rfl⟩ := hc
  unfold fix
  split
  · decide
  · assumption

theorem sees_first {l x : List UInt8} {k : Nat} (hk : k < l.length) (h : seesM l k (60 :: x) = true) : l[k] = 60 := by
  unfold seesM at h
  rw [decide_eq_true_eq, List.drop_eq_getElem_cons hk] at h
  simp only [List.length_cons, List.take_succ_cons, List.map_cons] at h
  injection h with h1 _
  exact low60 _ h1
theorem step_plain {l : List UInt8} {k : Nat} (hk : k < l.length) (h : l[k] ≠ 60) : stepM l k = ((0, false), k + 1) := by
  have hs : ∀ x, seesM l k (60 :: x) = false := fun x => by
    cases e : seesM l k (60 :: x) with
    | false => rfl
    | true => exact absurd (sees_first hk e) h
  unfold stepM
  rw [show seesM l k comL = false from hs _, if_neg (by simp)]
  have e1 : isMeta l k = false := by unfold isMeta; rw [show seesM l k metaL = false from hs _]; rfl
  have e2 : isTag l k = false := by unfold isTag; rw [hs, hs]; rfl
  have e3 : isOdd l k = false := by unfold isOdd; rw [hs, hs, hs]; rfl
  rw [e1, if_neg (by simp), e2, if_neg (by simp), e3, if_neg (by simp)]
theorem prescan_plain {l : List UInt8} (h : ∀ c ∈ l, c ≠ 60) : ∀ (n k : Nat), prescanF l n k = (0, 6)
  | 0, _ => rfl
  | n + 1, k => by
    by_cases hk : k < l.length
    · have := step_plain hk (h _ (List.getElem_mem hk))
      rw [prescanF, if_pos hk, this]
      exact prescan_plain h n (k + 1)
    · exact prescanF_end hk

set_option maxHeartbeats 2000000 in
theorem sniffPlain_walk (a : Option Addr) (cap : Nat) (l : List UInt8) (w : World) (hb : BytesIn w a l) (hm : l.length ≤ 140737488351232) :
    Calls Tryd.prog 8 #[.slice a l.length cap] w fun e w' => e = .returned (.bool true) ∧ Below w.heap.size w w' := by
  have HBY := hide hb
  have HM := hide hm
  clear hb hm
  go_enter Tryd.func8, Tryd.ntmps8
  have hblk : (w.alloc (.cells #[] 5)).heap[w.heap.size]? = some (.cells #[] 5 (0, 0)) := heap_alloc_new w _
  have HB1 := hide ((Below.refl w.heap.size w).alloc (Nat.le_refl _) (.cells #[] 5))
  obtain ⟨i0, hi, hz0, hz1, hz2⟩ := info_parts info5
  have HNEWS : Hid (∀ b off, a = some ⟨b, off, none⟩ → ∀ j u, (bytesV l)[j]? = some u → (w.alloc (.cells #[] 5)).cell? ((⟨b, off, none⟩ : Addr).add j) = some u) := hide (news_of ((unhide HBY).below (unhide HB1)))
  have HSRC : Hid (0 < l.length → ∃ b off, a = some ⟨b, off, none⟩) := hide (fun h0 => by obtain ⟨b, off, e, _⟩ := (unhide HBY).cells 0 _ (List.getElem?_eq_getElem h0); exact ⟨b, off, e⟩)
  go_wp2_with (at_builtin; go_must (refine cp_append (by rfl) _ _ 22 (by rfl) 5 i0 _ 1 1 Tryd.underlying22 hi hz0 hz1 hz2 rfl (by omega) w.heap.size (by rfl) (by exact hblk) a l.length cap (bytesV l) (by rfl) (by simp [bytesV]) (unhide HNEWS) (unhide HSRC) (bytes_one l) (by have := unhide HM; unfold maxLen; omega) (by have := unhide HM; omega) ?_); intro g cp w1 ho hgr hgk hgl; have HWR := hide (wr_of ho (unhide HB1) (Nat.le_refl _) hgr); clear ho hgr hgk hgl)
  clear hblk hi hz0 hz1 hz2
  go_loopg [4] l.length (fun gx s4 wx => ∃ i : Nat, s4 = .int .i64 i ∧ i + gx = l.length ∧ Wr w wx g cp (fixN l i))
  case atStart => exact ⟨0, rfl, by omega, by unfold fixN; simpa using unhide HWR⟩
  case round =>
    obtain ⟨i, rfl, hig, hwr⟩ := hrel
    have HW := hide hwr
    by_cases hil : i < l.length
    · have hiz : (i : Int) < (l.length : Int) := by omega
      have hw1 : IntKind.i64.wrap ((i : Int) + 1) = (i : Int) + 1 := by have := unhide HM; exact wrap_add i 1 (by omega) (by omega)
      have hif : i < (fixN l i).length := by rw [fixN_len]; exact hil
      obtain ⟨hc, hf⟩ := hwr.cell hif
      have hat : (fixN l i)[i] = l[i] := Option.some.inj ((List.getElem?_eq_getElem hif).symm.trans (fixN_at hil))
      rw [hat] at hc
      have HSUCC := hide (fixN_succ hil)
      by_cases h60 : l[i] = 60
      · have hq : ((l[i].toNat : Int) == 60) = true := by rw [h60]; rfl
        have HR : Hid (fixN l (i + 1) = (fixN l i).set i 62) := hide (by rw [unhide HSUCC, h60]; rfl)
        have HIF := hide hif
        generalize l[i] = c at hc hq
        clear HSUCC hat h60 hif hwr hil
        go_wp2
        go_roundg (gk - 1)
        case measure => omega
        case rel => exact ⟨i + 1, by go_num, by omega, by rw [unhide HR]; exact (unhide HW).set (unhide HIF) 62⟩
      · have hq : ((l[i].toNat : Int) == 60) = false := byte_ne _ 60 h60
        have HR : Hid (fixN l (i + 1) = fixN l i) := hide (by
          rw [unhide HSUCC, show fix l[i] = (fixN l i)[i] by rw [hat]; unfold fix; rw [if_neg h60]]
          exact List.set_getElem_self hif)
        generalize l[i] = c at hc hq
        clear HSUCC hat h60 hif hwr hil
        go_wp2
        go_roundg (gk - 1)
        case measure => omega
        case rel => exact ⟨i + 1, by go_num, by omega, by rw [unhide HR]; exact unhide HW⟩
    · have hiz : ¬ (i : Int) < (l.length : Int) := by omega
      obtain rfl : i = l.length := by omega
      have hp := prescan_any wr (some ⟨g, 0, none⟩) cp (fixN l l.length) hwr.bytes hwr.room
      have e0 : prescanM (fixN l l.length) = (0, 6) := prescan_plain (fun c hc => fixN_all l c (List.mem_of_mem_take hc)) _ _
      rw [e0, fixN_len] at hp
      have HP := hide hp
      have HBR := hide hwr.below
      clear hp e0 hwr
      go_wp2_with (first
        | (go_at_call 13; refine (unhide HP).mono ?_; rintro e w2 ⟨rfl, hb⟩; have HB2 := hide ((unhide HBR).trans (hb.mono (unhide HBR).size)); clear hb)
        | (go_at_call 12; refine (awake_any _).mono ?_; rintro e w3 ⟨rfl, hb⟩; have HB3 := hide ((unhide HB2).trans (hb.mono (unhide HB2).size)); clear hb))
      go_ret
      exact ⟨rfl, unhide HB3⟩
end Go.Proofs.YtmikcdmlhocgbaaDoor
