/-
  The document's decoder: take. The document's decoder: Feed, End, Text.
-/
import Derived.Test.YtmnmaenmoaehlaaGreatDoorSZaw
import Derived.Laws.OwnMore
namespace Go.Proofs.YtmnmaenmoaehlaaGreatDoor
open Go.RowKit Go.Lib

def runeVals (l : List Nat) : List Value := l.map fun (r : Nat) => Value.int .i32 (r : Int)
theorem utf8_le (l : List UInt8) (hne : l ≠ []) (fin : Bool) : (utf8M l fin).2 ≤ l.length := by
  have h := (utf8_pos l hne).2
  cases fin with
  | true => exact h
  | false =>
    rcases utf8_same l with e | e
    · rw [e]; exact Nat.zero_le _
    · rw [e]; exact h

/-- While take runs: what is left, and what was told. -/
structure TK (w wx : World) (bD : Nat) (ov : Bool) (r : List UInt8) (v : Value) (out : List Nat) : Prop where
  dec : ∃ a cap, wx.heap[bD]? = some (.cells #[.int .i64 0, .slice a r.length cap, .bool ov] 166) ∧ BytesAt w a r ∧ r.length ≤ cap ∧ (∀ b off, a = some ⟨b, off, none⟩ → b ≠ bD ∧ b < w.heap.size)
  own : wx.ownsRow w.heap.size 21 1 v out.length (runeVals out)
  mod : Mod (fun k => k = bD) w wx
theorem BytesAt.mod {w w' : World} {a : Option Addr} {l : List UInt8} (h : BytesAt w a l) (hb : ∀ b off, a = some ⟨b, off, none⟩ → w'.heap[b]? = w.heap[b]?) : BytesAt w' a l := by
  intro i c hi
  obtain ⟨b, off, e, c0⟩ := h i c hi
  exact ⟨b, off, e, by rw [World.cell?_of_block (hb b off e)]; exact c0⟩
theorem TK.bytes {w wx : World} {bD : Nat} {ov : Bool} {r : List UInt8} {v : Value} {out : List Nat} (h : TK w wx bD ov r v out) : ∃ a cap, wx.heap[bD]? = some (.cells #[.int .i64 0, .slice a r.length cap, .bool ov] 166) ∧ BytesAt wx a r ∧ r.length ≤ cap := by
  obtain ⟨a, cap, h1, h2, h3, h4⟩ := h.dec
  exact ⟨a, cap, h1, h2.mod (fun b off e => h.mod.block b (h4 b off e).2 (h4 b off e).1), h3⟩

theorem Tryz.infoRune : (Tryz.prog.info? 21).map (fun i => (i.zero, i.size, i.bytes)) = some (some (.int .i32 0), 1, 4) := by kernel_rfl

set_option maxHeartbeats 8000000 in
set_option maxRecDepth 100000 in
theorem take_any (w : World) (bD : Nat) (ov fin : Bool) (l : List UInt8) (a : Option Addr) (cap : Nat) (hD : w.heap[bD]? = some (.cells #[.int .i64 0, .slice a l.length cap, .bool ov] 166)) (hb : BytesAt w a l) (hcap : l.length ≤ cap)
    (ha : ∀ b off, a = some ⟨b, off, none⟩ → b ≠ bD ∧ b < w.heap.size) (hlen : l.length ≤ 8589934592) :
    Calls Tryz.prog 117 #[.pointer (some ⟨bD, 0, none⟩), .bool fin] w fun e w' => ∃ v, e = .returned v ∧ TK w w' bD ov (takeM fin l.length l).2 v (takeM fin l.length l).1 := by
  have HI : Hid (TK w w bD ov l (.slice none 0 0) []) := hide ⟨⟨a, cap, hD, hb, hcap, ha⟩, World.ownsRow_nil _ _ _ _, Mod.refl _ _⟩
  have hlt : bD < w.heap.size := (Array.getElem?_eq_some_iff.1 hD).1
  obtain ⟨ti, hi0, hz0, hz1, hz2⟩ := info_parts Tryz.infoRune
  clear hD hb ha
  go_enter Tryz.func117, Tryz.ntmps117
  go_wp2
  go_loopg [5] l.length (fun g v5 wx => ∃ (r : List UInt8) (out : List Nat), r.length ≤ g ∧ r.length + out.length ≤ l.length ∧ TK w wx bD ov r v5 out ∧ takeM fin l.length l = (out ++ (takeM fin g r).1, (takeM fin g r).2))
  case atStart => exact ⟨l, [], Nat.le_refl _, by simp, unhide HI, rfl⟩
  case round =>
    obtain ⟨r, out, hrg, hro, htk, heq⟩ := hrel
    obtain ⟨a2, cap2, hd, hby, hc2⟩ := htk.bytes
    have c0 : wr.cell? ⟨bD, 0, none⟩ = some (.int .i64 0) := cell_row _ _ 0 _ _ _ hd
    have c1 : wr.cell? ⟨bD, 1, none⟩ = some (.slice a2 r.length cap2) := cell_row _ _ 1 _ _ _ hd
    have HTK := hide htk
    have HEQ := hide heq
    have HBY := hide hby
    have HD := hide hd
    clear htk heq hby hd
    by_cases hne : r = []
    · subst hne
      have hz : ¬ ((0 : Int) < (([] : List UInt8).length : Int)) := by simp
      have HF : Hid (takeM fin l.length l = (out, [])) := hide (by rw [unhide HEQ, (take_nil fin gk).1, (take_nil fin gk).2, List.append_nil])
      go_wp2
      go_ret
      first
        | exact (by rw [unhide HF]; exact unhide HTK)
        | exact ⟨_, rfl, by rw [unhide HF]; exact unhide HTK⟩
    · have hpos := List.length_pos_iff.2 hne
      have hz : (0 : Int) < (r.length : Int) := by omega
      have HU := hide (fun W (h : BytesAt W a2 r) => dutf8_any r hne fin W a2 cap2 h (by omega))
      have hle := utf8_le r hne fin
      obtain ⟨g, rfl⟩ : ∃ g, gk = g + 1 := ⟨gk - 1, by omega⟩
      have HST := hide (fun h => take_step (fin := fin) (f := g) hne h)
      have HNO := hide (fun h => take_no (fin := fin) (f := g) hne h)
      generalize utf8M r fin = q at HU hle HST HNO
      obtain ⟨rn, n⟩ := q
      simp only at HU hle HST HNO
      by_cases hn0 : n = 0
      · subst hn0
        have HF : Hid (takeM fin l.length l = (out, r)) := hide (by rw [unhide HEQ, (unhide HNO) rfl, List.append_nil])
        go_wp2_with (go_at_call 130; refine ((unhide HU) _ (unhide HBY)).mono ?_; rintro e w1 ⟨rfl, hw⟩; rw [hw]; clear hw)
        go_ret
        first
          | exact (by rw [unhide HF]; exact unhide HTK)
          | exact ⟨_, rfl, by rw [unhide HF]; exact unhide HTK⟩
      · have hnz : ((n : Int) == 0) = false := by rw [beq_eq_false_iff_ne]; omega
        obtain ⟨x0, hx0⟩ : ∃ x0, r[0]? = some x0 := ⟨_, List.getElem?_eq_getElem hpos⟩
        obtain ⟨a3, cap3, hd3, hb3, hc3, hf3⟩ := (unhide HTK).dec
        obtain ⟨e1, e2⟩ : a3 = a2 ∧ cap3 = cap2 := by
          have := hd3.symm.trans (unhide HD)
          simp at this
          exact ⟨this.1, this.2⟩
        subst e1; subst e2
        obtain ⟨b, off, rfl, _⟩ := hb3 0 x0 hx0
        have hbf := hf3 b off rfl
        have hnle : (n : Int) ≤ (r.length : Int) := by omega
        have hnc : (n : Int) ≤ (cap3 : Int) := by omega
        have hwb := (unhide HTK).mod.size
        have HO1 := hide ((unhide HTK).own.alloc (.cells #[.int .i32 (rn : Int)] 21))
        have HNW : Hid (∀ (j : Nat) u, ([.int .i32 (rn : Int)] : List Value)[j]? = some u → (wr.alloc (.cells #[.int .i32 (rn : Int)] 21)).cell? ((⟨wr.heap.size, 0, none⟩ : Addr).add j) = some u) := hide (fun j u hj => by
          have ad : (⟨wr.heap.size, 0, none⟩ : Addr).add j = ⟨wr.heap.size, j, none⟩ := by unfold Addr.add; split <;> simp_all
          rw [ad, cell_row _ _ _ _ _ _ (heap_alloc_new wr _)]
          simpa using hj)
        have HP : Hid (∀ v' w2, w2.ownsRow w.heap.size 21 1 v' (out.length + 1) (runeVals out ++ [.int .i32 (rn : Int)]) → (wr.alloc (.cells #[.int .i32 (rn : Int)] 21)).grownBy w2 u5.ownBlock →
            w2.cell? ⟨bD, 1, none⟩ = some (.slice (some ⟨b, off, none⟩) r.length cap3) ∧ w2.frozen? ⟨bD, 1, none⟩ = false ∧ ∀ off' c', ((off' = off + n ∧ c' = cap3 - n) ∨ (off' = off ∧ c' = 0 ∧ r.length = n)) → TK w (w2.setCell ⟨bD, 1, none⟩ (.slice (some ⟨b, off', none⟩) (r.length - n) c')) bD ov (r.drop n) v' (out ++ [rn])) := hide (fun v' w2 ho2 hg2 => by
          have hkeep : ∀ k, k < w.heap.size → w2.heap[k]? = wr.heap[k]? := fun k hk => by
            rw [hg2.block k (by simp; omega) (fun e => by have := ((unhide HTK).own.lt k e.symm).1; omega), Below.heap_alloc _ _ _ (by omega)]
          have hD2 : w2.heap[bD]? = some (.cells #[.int .i64 0, .slice (some ⟨b, off, none⟩) r.length cap3, .bool ov] 166) := (hkeep bD hlt).trans (unhide HD)
          refine ⟨cell_row _ _ 1 _ _ _ hD2, by unfold World.frozen?; simp only [hD2]; simp, fun off' c' hoc => ⟨⟨some ⟨b, off', none⟩, c', ?_, ?_, ?_, ?_⟩, ?_, ?_⟩⟩
          · have := heap_setCell_same w2 bD 1 _ _ (.slice (some ⟨b, off', none⟩) (r.length - n) c') hD2
            rw [this, List.length_drop]
            rfl
          · intro i c hi
            rw [List.getElem?_drop] at hi
            obtain ⟨b', off2, e', hcc⟩ := hb3 (n + i) c hi
            cases e'
            have hlen2 := (List.getElem?_eq_some_iff.1 hi).1
            rcases hoc with ⟨rfl, _⟩ | ⟨_, _, h3⟩
            · exact ⟨_, _, rfl, by rw [Nat.add_assoc]; exact hcc⟩
            · omega
          · rw [List.length_drop]; rcases hoc with ⟨_, h2⟩ | ⟨_, h2, h3⟩ <;> omega
          · intro b' off2 e'
            cases e'
            exact hbf
          · rw [List.length_append]
            have : runeVals (out ++ [rn]) = runeVals out ++ [.int .i32 (rn : Int)] := by simp [runeVals]
            rw [this]
            exact ownsRow_kept ho2 (fun k hk => Below.heap_setCell _ _ _ _ (fun e => by have := (ho2.lt k hk).1; simp at e; omega))
          · have hm := (unhide HTK).mod
            refine ⟨hg2.os.trans hm.os, hg2.tape.trans hm.tape, hg2.output.trans hm.output, by have := hg2.size; simp at this ⊢; omega, fun k hk hne => ?_⟩
            rw [Below.heap_setCell _ _ _ _ (fun e => hne e), hkeep k hk]
            exact hm.block k hk hne)
        have HST2 := hide ((unhide HST) hn0)
        have hol : out.length + 1 ≤ 8589934592 := by omega
        have h63 : out.length + 1 ≤ maxLen := by unfold maxLen; omega
        have hbyt : (out.length + 1) * 4 ≤ 140737488355328 := by omega
        have hbase : w.heap.size ≤ (wr.alloc (.cells #[.int .i32 (rn : Int)] 21)).heap.size := by simp; omega
        have hn1 : 1 ≤ n := by omega
        clear hd3 hb3 hf3 hx0 hn0
        go_wp2_with (first
          | (go_at_call 130; refine ((unhide HU) _ (unhide HBY)).mono ?_; rintro e w1 ⟨rfl, hw⟩; rw [hw]; clear hw)
          | (at_builtin; refine wpList_append_own _ rfl _ _ 129 rfl w.heap.size 21 ti _ 1 4 Tryz.underlying129 hi0 hz0 hz1 hz2 rfl (by omega) u5 out.length (runeVals out) rfl (unhide HO1) ⟨wr.heap.size, 0, none⟩ 1 1 [.int .i32 (rn : Int)] rfl rfl (unhide HNW) (by intro u hu; simp at hu; subst hu; rfl) h63 hbyt hbase ?_; intro v' w2 ho2 hg2 _; obtain ⟨d1, d2, d3⟩ := (unhide HP) v' w2 ho2 hg2; have D3 := hide d3; clear d3 ho2 hg2))
        all_goals go_roundg g
        all_goals first
          | omega
          | (refine ⟨r.drop n, out ++ [rn], by rw [List.length_drop]; omega, by rw [List.length_drop, List.length_append]; simp; omega, (by first | exact unhide D3 _ _ (.inl ⟨rfl, rfl⟩) | exact unhide D3 _ _ (.inr ⟨rfl, rfl, by omega⟩)), ?_⟩; rw [unhide HEQ, unhide HST2]; simp)
end Go.Proofs.YtmnmaenmoaehlaaGreatDoor

namespace Go.Proofs.YtmnmaenmoaehlaaGreatDoor
open Go.RowKit Go.Lib

theorem wpList_append_skip {P : Program} {w : World} {ops : Array Oper} {rest : List Oper} {o : Oper} {a : Act} {Q : Exit → Act → World → Prop} (hgd : o.guard = none) (s x : Operand) (t : TypeId)
    (ho : o.op = .call { callee := .builtin .append, args := #[s, x], argTypes := #[t, t] }) (v : Value) (hs : a.eval s = v) (hx : a.eval x = .slice none 0 0)
    (hr : ∀ ty, (Builtin.append_ #[t, t] ty #[v, .slice none 0 0]).run P w = .ok v w) (h : wpList P ops Q rest (a.put o.dst v) w) : wpList P ops Q (o :: rest) a w := by
  refine wpList_plain hgd fun K hK => ?_
  unfold Oper.wp execOp
  simp only [ho, resolve, invoke, builtin, Sem.run_bind, Sem.run_pure, Result.andThen_ok, List.map_toArray, List.map_cons, List.map_nil, hs, hx, hr]
  exact hK _ _ h

theorem Tryz.infoByte : (Tryz.prog.info? 5).map (fun i => (i.zero, i.size, i.bytes)) = some (some (.int .u8 0), 1, 1) := by kernel_rfl
theorem bytes_row {w : World} {base : Nat} {v : Value} {l : List UInt8} (h : w.ownsRow base 5 1 v l.length (byteCells l)) : ∃ a cap, v = .slice a l.length cap ∧ BytesAt w a l ∧ l.length ≤ cap ∧ ∀ b off, a = some ⟨b, off, none⟩ → base ≤ b ∧ b < w.heap.size := by
  have hlt := h.lt
  rcases h.2 with ⟨rfl, h0⟩ | ⟨g, cap, cur, rfl, hb, hg, hnc, _⟩
  · obtain rfl : l = [] := List.eq_nil_of_length_eq_zero h0
    exact ⟨none, 0, rfl, (fun i c hi => by cases hi), Nat.le_refl _, (fun b off e => by cases e)⟩
  · refine ⟨some ⟨g, 0, none⟩, cap, rfl, fun i c hi => ⟨g, 0, rfl, ?_⟩, hnc, (fun b off e => by cases e; exact hlt g rfl)⟩
    have hil := (List.getElem?_eq_some_iff.1 hi).1
    rw [h.cellAt (0 + i) (by omega), Nat.zero_add]
    unfold byteCells
    rw [List.getElem?_map, hi]
    rfl

set_option maxHeartbeats 4000000 in
set_option maxRecDepth 100000 in
theorem feed_any (w : World) (bD : Nat) (l : List UInt8) (b off cap : Nat) (hD : w.heap[bD]? = some (.cells #[.int .i64 0, .slice none 0 0, .bool false] 166)) (hb : BytesAt w (some ⟨b, off, none⟩) l) (hlen : l.length ≤ 8589934592) :
    Calls Tryz.prog 106 #[.pointer (some ⟨bD, 0, none⟩), .slice (some ⟨b, off, none⟩) l.length cap] w fun e w' => ∃ v w1, e = .returned (.tuple #[v, .int .i64 0]) ∧ Mod (fun k => k = bD) w w1 ∧ TK w1 w' bD false (takeM false l.length l).2 v (takeM false l.length l).1 := by
  obtain ⟨ti, hi0, hz0, hz1, hz2⟩ := info_parts Tryz.infoByte
  have c1 : w.cell? ⟨bD, 1, none⟩ = some (.slice none 0 0) := cell_row _ _ 1 _ _ _ hD
  have c2 : w.cell? ⟨bD, 2, none⟩ = some (.bool false) := cell_row _ _ 2 _ _ _ hD
  have hlt : bD < w.heap.size := (Array.getElem?_eq_some_iff.1 hD).1
  have HOWN : Hid ((w.alloc (.cells #[] 5)).ownsRow w.heap.size 5 1 (.slice (some ⟨w.heap.size, 0, none⟩) 0 0) 0 []) := hide (World.ownsRow_lit w #[] 0 (Nat.le_refl _) (Nat.zero_le _) rfl)
  have HNW : Hid (∀ (j : Nat) u, (byteCells l)[j]? = some u → (w.alloc (.cells #[] 5)).cell? ((⟨b, off, none⟩ : Addr).add j) = some u) := hide (fun j u hj => by
    unfold byteCells at hj
    rw [List.getElem?_map] at hj
    cases hc : l[j]? with
    | none => rw [hc] at hj; cases hj
    | some c =>
      rw [hc] at hj
      cases hj
      obtain ⟨b2, off2, e, cc⟩ := hb j c hc
      cases e
      have ad : (⟨b, off, none⟩ : Addr).add j = ⟨b, off + j, none⟩ := by unfold Addr.add; split <;> simp_all
      rw [ad, World.cell?_of_block (Below.heap_alloc _ _ _ (World.block_lt_of_cell? w _ cc))]
      exact cc)
  have HFIN : Hid (∀ v' w2, w2.ownsRow w.heap.size 5 1 v' (0 + l.length) ([] ++ byteCells l) → (w.alloc (.cells #[] 5)).grownBy w2 (some w.heap.size) → ∃ a c, v' = .slice a l.length c ∧ w2.cell? ⟨bD, 1, none⟩ = some (.slice none 0 0) ∧ w2.frozen? ⟨bD, 1, none⟩ = false ∧ Mod (fun k => k = bD) w (w2.setCell ⟨bD, 1, none⟩ (.slice a l.length c)) ∧
      (w2.setCell ⟨bD, 1, none⟩ (.slice a l.length c)).heap[bD]? = some (.cells #[.int .i64 0, .slice a l.length c, .bool false] 166) ∧ BytesAt (w2.setCell ⟨bD, 1, none⟩ (.slice a l.length c)) a l ∧ l.length ≤ c ∧ ∀ b off, a = some ⟨b, off, none⟩ → b ≠ bD ∧ b < (w2.setCell ⟨bD, 1, none⟩ (.slice a l.length c)).heap.size) := hide (fun v' w2 ho hg => by
    rw [Nat.zero_add, List.nil_append] at ho
    obtain ⟨a, c, rfl, hba, hlc, hab⟩ := bytes_row ho
    have hkeep : ∀ k, k < w.heap.size → w2.heap[k]? = w.heap[k]? := fun k hk => by
      rw [hg.block k (by simp; omega) (fun e => by cases e; omega), Below.heap_alloc _ _ _ (by omega)]
    have hD2 := (hkeep bD hlt).trans hD
    have hne : ∀ b off, a = some ⟨b, off, none⟩ → b ≠ bD := fun b off e => by have := (hab b off e).1; omega
    refine ⟨a, c, rfl, cell_row _ _ 1 _ _ _ hD2, by unfold World.frozen?; simp only [hD2]; simp, ⟨hg.os, hg.tape, hg.output, by have := hg.size; simp at this ⊢; omega, fun k hk hn => ?_⟩, heap_setCell_same w2 bD 1 _ _ _ hD2, hba.mod (fun b off e => Below.heap_setCell _ _ _ _ (hne b off e)), hlc, fun b off e => ⟨hne b off e, by simpa using (hab b off e).2⟩⟩
    rw [Below.heap_setCell _ _ _ _ hn, hkeep k hk])
  have h63 : 0 + l.length ≤ maxLen := by unfold maxLen; omega
  have hbyt : (0 + l.length) * 1 ≤ 140737488355328 := by omega
  have hbase : w.heap.size ≤ (w.alloc (.cells #[] 5)).heap.size := by simp
  have hone : ∀ u ∈ byteCells l, u.oneCell' = true := by
    intro u hu
    unfold byteCells at hu
    obtain ⟨c, _, rfl⟩ := List.mem_map.1 hu
    rfl
  have hbl : (byteCells l).length = l.length * 1 := by rw [byteCells_length, Nat.mul_one]
  clear hb hD
  go_enter Tryz.func106, Tryz.ntmps106
  go_wp2_with (first
    | (at_builtin; refine wpList_append_own _ rfl _ _ 101 rfl w.heap.size 5 ti _ 1 1 Tryz.underlying101 hi0 hz0 hz1 hz2 rfl (by omega) (.slice (some ⟨w.heap.size, 0, none⟩) 0 0) 0 [] rfl (unhide HOWN) ⟨b, off, none⟩ l.length cap (byteCells l) rfl hbl (unhide HNW) hone h63 hbyt hbase ?_; intro v' w2 ho2 hg2 _; obtain ⟨a3, c3, rfl, d1, d2, d3, d4, d5, d6, d7⟩ := (unhide HFIN) v' w2 ho2 hg2; have D3 := hide d3; have DT := hide (take_any _ bD false false l a3 c3 d4 d5 d6 d7 hlen); clear d3 d4 d5 d6 d7 ho2 hg2)
    | (go_at_call 117; refine (unhide DT).mono ?_; rintro e w3 ⟨v, rfl, ht⟩; have HT := hide ht; clear ht))
  go_ret2
  exact ⟨v, _, rfl, unhide D3, unhide HT⟩

set_option maxHeartbeats 4000000 in
set_option maxRecDepth 100000 in
theorem end_any (w : World) (bD : Nat) (l : List UInt8) (a : Option Addr) (cap : Nat) (hD : w.heap[bD]? = some (.cells #[.int .i64 0, .slice a l.length cap, .bool false] 166)) (hb : BytesAt w a l) (hcap : l.length ≤ cap) (ha : ∀ b off, a = some ⟨b, off, none⟩ → b ≠ bD ∧ b < w.heap.size) (hlen : l.length ≤ 8589934592) :
    Calls Tryz.prog 107 #[.pointer (some ⟨bD, 0, none⟩)] w fun e w' => ∃ v w1, e = .returned (.tuple #[v, .int .i64 0]) ∧ Mod (fun k => k = bD) w w1 ∧ w1.heap.size = w.heap.size ∧ TK w1 w' bD true (takeM true l.length l).2 v (takeM true l.length l).1 := by
  have c2 : w.cell? ⟨bD, 2, none⟩ = some (.bool false) := cell_row _ _ 2 _ _ _ hD
  have f2 : w.frozen? ⟨bD, 2, none⟩ = false := by unfold World.frozen?; simp only [hD]; simp
  have HT := hide (take_any (w.setCell ⟨bD, 2, none⟩ (.bool true)) bD true true l a cap (heap_setCell_same w bD 2 _ _ (.bool true) hD) (hb.mod (fun b off e => Below.heap_setCell _ _ _ _ (ha b off e).1)) hcap (fun b off e => ⟨(ha b off e).1, by simpa using (ha b off e).2⟩) hlen)
  have HM : Hid (Mod (fun k => k = bD) w (w.setCell ⟨bD, 2, none⟩ (.bool true))) := hide (Mod.setCell w ⟨bD, 2, none⟩ (.bool true) rfl)
  clear hb hD ha
  go_enter Tryz.func107, Tryz.ntmps107
  go_wp2_with (go_at_call 117; refine (unhide HT).mono ?_; rintro e w3 ⟨v, rfl, ht⟩; have HTT := hide ht; clear ht)
  go_ret2
  exact ⟨v, _, rfl, unhide HM, by simp, unhide HTT⟩

theorem newD_any (w : World) : Calls Tryz.prog 105 #[.int .i64 0] w fun e w' => e = .returned (.tuple #[.pointer (some ⟨w.heap.size, 0, none⟩), .int .i64 0]) ∧ w' = w.alloc (.cells #[.int .i64 0, .slice none 0 0, .bool false] 166) := by
  go_enter Tryz.func105, Tryz.ntmps105
  go_wp2
  go_ret2
  exact ⟨rfl, rfl⟩
theorem take_len (fin : Bool) : ∀ (f : Nat) (l : List UInt8), (takeM fin f l).1.length + (takeM fin f l).2.length ≤ l.length
  | 0, l => by simp [takeM]
  | f + 1, l => by
    by_cases hne : l = []
    · subst hne; rw [(take_nil fin _).1, (take_nil fin _).2]; simp
    · by_cases h : (utf8M l fin).2 = 0
      · rw [take_no hne h]; simp
      · have hl := utf8_le l hne fin
        have ih := take_len fin f (l.drop (utf8M l fin).2)
        rw [take_step hne h]
        simp only [List.length_cons]
        rw [List.length_drop] at ih
        omega

theorem own_base {w : World} {b b' : Nat} {e : TypeId} {s : Nat} {v : Value} {n : Nat} {xs : List Value} (h : w.ownsRow b e s v n xs) (hb : b' ≤ b) : w.ownsRow b' e s v n xs := by
  obtain ⟨h1, h2⟩ := h
  refine ⟨h1, ?_⟩
  rcases h2 with h2 | ⟨g, cap, cur, e1, e2, e3⟩
  · exact .inl h2
  · exact .inr ⟨g, cap, cur, e1, Nat.le_trans hb e2, e3⟩
theorem runeVals_len (l : List Nat) : (runeVals l).length = l.length := by simp [runeVals]
theorem runeVals_app (a b : List Nat) : runeVals (a ++ b) = runeVals a ++ runeVals b := by simp [runeVals]
theorem runeVals_one (l : List Nat) : ∀ u ∈ runeVals l, u.oneCell' = true := by
  intro u hu
  unfold runeVals at hu
  obtain ⟨c, _, rfl⟩ := List.mem_map.1 hu
  rfl

set_option maxHeartbeats 8000000 in
set_option maxRecDepth 100000 in
theorem dtext_any (w : World) (l : List UInt8) (b off cap : Nat) (hb : BytesAt w (some ⟨b, off, none⟩) l) (hlen : l.length ≤ 1000000000) :
    Calls Tryz.prog 85 #[.int .i64 0, .slice (some ⟨b, off, none⟩) l.length cap] w fun e w' => ∃ v, e = .returned (.tuple #[v, .int .i64 0]) ∧ w'.ownsRow w.heap.size 21 1 v (textM l).length (runeVals (textM l)) ∧ Below w.heap.size w w' := by
  have HF := hide (feed_any (w.alloc (.cells #[.int .i64 0, .slice none 0 0, .bool false] 166)) w.heap.size l b off cap (heap_alloc_new w _) (hb.below (below_new w _)) (by omega))
  have HNEW := hide (newD_any w)
  have htl := take_len false l.length l
  obtain ⟨ti, hi0, hz0, hz1, hz2⟩ := info_parts Tryz.infoRune
  have HTX : Hid (textM l = (takeM false l.length l).1 ++ (takeM true (takeM false l.length l).2.length (takeM false l.length l).2).1) := hide rfl
  have htl2 := take_len true (takeM false l.length l).2.length (takeM false l.length l).2
  generalize textM l = tx at HTX ⊢
  generalize (takeM false l.length l).1 = o1 at HF htl HTX
  generalize (takeM false l.length l).2 = r1 at HF htl HTX htl2
  have HW0 : Hid (Below w.heap.size w (w.alloc (.cells #[.int .i64 0, .slice none 0 0, .bool false] 166)) ∧ (w.alloc (.cells #[.int .i64 0, .slice none 0 0, .bool false] 166)).heap.size = w.heap.size + 1) := hide ⟨(Below.refl _ _).alloc (Nat.le_refl _) _, by simp⟩
  clear hb
  go_enter Tryz.func85, Tryz.ntmps85
  go_wp2_with (first
    | (go_at_call 105; refine (unhide HNEW).mono ?_; rintro e w1 ⟨rfl, hw⟩; rw [hw]; clear hw)
    | (go_at_call 106; refine (unhide HF).mono ?_; rintro e w1 ⟨v1, wm, rfl, hm1, ht1⟩; have HM1 := hide hm1; have HT1 := hide ht1; clear hm1 ht1)
    | (go_at_call 107; fail))
  obtain ⟨a2, cap2, hd, hby, hc2⟩ := (unhide HT1).bytes
  have hab : ∀ b off, a2 = some ⟨b, off, none⟩ → b ≠ w.heap.size ∧ b < w1.heap.size := fun b off e => by
    obtain ⟨a3, c3, h1, _, _, h4⟩ := (unhide HT1).dec
    have he : a3 = a2 := by
      have := h1.symm.trans hd
      simp at this
      exact this.1
    obtain ⟨k1, k2⟩ := h4 b off (he.trans e)
    exact ⟨k1, Nat.lt_of_lt_of_le k2 (unhide HT1).mod.size⟩
  refine (end_any w1 w.heap.size r1 a2 cap2 hd hby hc2 hab (by omega)).mono ?_
  rintro e w2 ⟨v2, wn, rfl, hm2, hsz, ht2⟩
  generalize (takeM true r1.length r1).1 = o2 at ht2 HTX htl2
  generalize (takeM true r1.length r1).2 = r2 at ht2 htl2
  have hwm : w.heap.size + 1 ≤ wm.heap.size := by have := (unhide HM1).size; rw [(unhide HW0).2] at this; exact this
  have hkeep : ∀ k, k < w1.heap.size → k ≠ w.heap.size → w2.heap[k]? = w1.heap[k]? := fun k hk hne => (ht2.mod.block k (by rw [hsz]; exact hk) hne).trans (hm2.block k hk hne)
  have hown1 : w2.ownsRow wm.heap.size 21 1 v1 o1.length (runeVals o1) := ownsRow_kept (unhide HT1).own (fun k hk => hkeep k ((unhide HT1).own.lt k hk).2 (by have := ((unhide HT1).own.lt k hk).1; omega))
  have hsz12 : w1.heap.size ≤ w2.heap.size := by rw [← hsz]; exact ht2.mod.size
  have hsz01 := (unhide HT1).mod.size
  have hbel : Below w.heap.size w w2 := by
    have h0 := (unhide HW0).1
    refine ⟨ht2.mod.os.trans (hm2.os.trans ((unhide HT1).mod.os.trans ((unhide HM1).os.trans h0.os))), ht2.mod.tape.trans (hm2.tape.trans ((unhide HT1).mod.tape.trans ((unhide HM1).tape.trans h0.tape))), ht2.mod.output.trans (hm2.output.trans ((unhide HT1).mod.output.trans ((unhide HM1).output.trans h0.output))), by omega, fun k hk => ?_⟩
    rw [hkeep k (by omega) (by omega), (unhide HT1).mod.block k (by omega) (by omega), (unhide HM1).block k (by rw [(unhide HW0).2]; omega) (by omega), h0.block k hk]
  have hown2 := ht2.own
  have HOWN1 := hide hown1
  have HBEL := hide hbel
  have HOWN2 := hide hown2
  have h63 : o1.length + o2.length ≤ maxLen := by unfold maxLen; omega
  have hbyt : (o1.length + o2.length) * 4 ≤ 140737488355328 := by omega
  have hbase : wm.heap.size ≤ w2.heap.size := by omega
  have hcell := fun (g : Nat) (hg : v2.ownBlock = some g) => hown2.cells hg
  have hv2 := hown2.2
  clear hm2 ht2 hd hby hkeep hown1 hbel hown2
  rcases hv2 with ⟨rfl, h0⟩ | ⟨g, c, cur, rfl, _, _, _, _, _⟩
  · have ho2 : o2 = [] := List.eq_nil_of_length_eq_zero h0
    have HAP := hide (fun ty => run_append_owned_none (P := Tryz.prog) w2 wm.heap.size 129 ty 21 ti 1 Tryz.underlying129 hi0 v1 o1.length (runeVals o1) (unhide HOWN1))
    clear hcell h0
    go_wp2_with (at_builtin; refine wpList_append_skip rfl _ _ 129 rfl v1 rfl rfl (unhide HAP) ?_)
    go_ret2
    exact ⟨v1, rfl, by rw [unhide HTX, ho2, List.append_nil]; exact own_base (unhide HOWN1) (by omega), unhide HBEL⟩
  · have HNW := hide (hcell g rfl)
    have hl2 : (runeVals o2).length = o2.length * 1 := by rw [runeVals_len, Nat.mul_one]
    clear hcell
    go_wp2_with (at_builtin; refine wpList_append_own _ rfl _ _ 129 rfl wm.heap.size 21 ti _ 1 4 Tryz.underlying129 hi0 hz0 hz1 hz2 rfl (by omega) v1 o1.length (runeVals o1) rfl (unhide HOWN1) ⟨g, 0, none⟩ o2.length c (runeVals o2) rfl hl2 (unhide HNW) (runeVals_one _) h63 hbyt hbase ?_; intro v' w3 ho3 hg3 _; have HO3 := hide ho3; have HG3 := hide hg3; clear ho3 hg3)
    go_ret2
    refine ⟨_, rfl, by rw [unhide HTX, List.length_append, runeVals_app]; exact own_base (unhide HO3) (by omega), ?_⟩
    have hg := unhide HG3
    have hb := unhide HBEL
    refine ⟨hg.os.trans hb.os, hg.tape.trans hb.tape, hg.output.trans hb.output, Nat.le_trans hb.size hg.size, fun k hk => (hg.block k (Nat.lt_of_lt_of_le hk hb.size) (fun e => ?_)).trans (hb.block k hk)⟩
    have := ((unhide HOWN1).lt k e.symm).1
    omega
end Go.Proofs.YtmnmaenmoaehlaaGreatDoor
