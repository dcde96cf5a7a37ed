/-
  Tasks in memory; lists copied into new memory: newList at bytes and at acts.
-/
import Derived.Test.YtdfcdgjmjionbaaTb
namespace Go.Proofs.Ytdfcdgjmjionbaa
open Go.RowKit Go.Lib

/-- An act: four numbers, two texts. -/
structure ActM where
  what : Int
  a : Int
  b : Int
  c : Int
  text : ByteArray
  more : ByteArray
def ActM.cells (x : ActM) : List Value := [.int .i64 x.what, .int .i64 x.a, .int .i64 x.b, .int .i64 x.c, .string x.text, .string x.more]
def actRow (l : List ActM) : List Value := l.flatMap ActM.cells
def bytesV (l : List Int) : List Value := l.map fun x => .int .u8 x
/-- A task: its kind, its bytes, its acts. -/
structure Tk where
  what : Int
  bs : List Int
  acts : List ActM
def tk0 : Tk := ⟨0, [], []⟩

theorem flat_len {α : Type} (f : α → List Value) (m : Nat) (hm : ∀ x, (f x).length = m) (l : List α) : (l.flatMap f).length = l.length * m := by
  induction l with
  | nil => simp
  | cons x l ih => simp [ih, hm, Nat.add_mul]; omega
theorem actRow_len (l : List ActM) : (actRow l).length = l.length * 6 := flat_len ActM.cells 6 (fun _ => rfl) l
theorem bytesV_len (l : List Int) : (bytesV l).length = l.length * 1 := by simp [bytesV]
theorem bytes_one (l : List Int) : ∀ u ∈ bytesV l, u.oneCell' = true := by
  intro u hu
  unfold bytesV at hu
  obtain ⟨c, _, rfl⟩ := List.mem_map.1 hu
  rfl
theorem acts_one (l : List ActM) : ∀ u ∈ actRow l, u.oneCell' = true := by
  intro u hu
  simp only [actRow, List.mem_flatMap] at hu
  obtain ⟨x, _, hx⟩ := hu
  simp [ActM.cells] at hx
  rcases hx with rfl | rfl | rfl | rfl | rfl | rfl <;> rfl

/-- Cells that can be read one behind the other, in blocks of F. -/
def RowIn (w : World) (F : Nat → Prop) (a : Option Addr) (l : List Value) : Prop := ∀ (j : Nat) u, l[j]? = some u → ∃ b off, a = some ⟨b, off, none⟩ ∧ F b ∧ w.cell? ⟨b, off + j, none⟩ = some u
section
variable {w w' : World} {F G : Nat → Prop} {a : Option Addr} {l : List Value}
theorem RowIn.nil (w : World) (F : Nat → Prop) (a : Option Addr) : RowIn w F a [] := fun j u h => by simp at h
theorem RowIn.mod (h : RowIn w F a l) (hm : Mod G w w') (hd : ∀ k, F k → ¬ G k) : RowIn w' F a l := by
  intro j u hj
  obtain ⟨b, off, e, hF, hc⟩ := h j u hj
  exact ⟨b, off, e, hF, by rw [World.cell?_of_block (hm.block b (World.block_lt_of_cell? w _ hc) (hd b hF))]; exact hc⟩
theorem RowIn.below (h : RowIn w F a l) (hb : Below w.heap.size w w') : RowIn w' F a l := h.mod (G := fun _ => False) (Mod.of_below hb) (fun _ _ e => e)
theorem RowIn.mono (h : RowIn w F a l) (hFG : ∀ k, k < w.heap.size → F k → G k) : RowIn w G a l := by
  intro j u hj
  obtain ⟨b, off, e, hF, hc⟩ := h j u hj
  exact ⟨b, off, e, hFG b (World.block_lt_of_cell? w _ hc) hF, hc⟩
theorem add_at (b off j : Nat) : (⟨b, off, none⟩ : Addr).add j = ⟨b, off + j, none⟩ := by unfold Addr.add; split <;> simp_all
theorem RowIn.news (h : RowIn w F a l) : ∀ b off, a = some ⟨b, off, none⟩ → ∀ j u, l[j]? = some u → w.cell? ((⟨b, off, none⟩ : Addr).add j) = some u := by
  intro b off e j u hj
  obtain ⟨b', off', e', _, hc⟩ := h j u hj
  rw [e] at e'
  cases e'
  rw [add_at]
  exact hc
theorem RowIn.src (h : RowIn w F a l) (hl : 0 < l.length) : ∃ b off, a = some ⟨b, off, none⟩ := by
  obtain ⟨b, off, e, _⟩ := h 0 _ (List.getElem?_eq_getElem hl)
  exact ⟨b, off, e⟩
end

theorem info5 : (Try.prog.info? 5).map (fun i => (i.zero, i.size, i.bytes)) = some (some (.int .u8 0), 1, 1) := by kernel_rfl
theorem info66 : (Try.prog.info? 66).map (fun i => (i.zero, i.size, i.bytes)) = some (some (.agg #[.int .i64 0, .int .i64 0, .int .i64 0, .int .i64 0, .string ⟨#[]⟩, .string ⟨#[]⟩]), 6, 64) := by kernel_rfl

/-- A list, whatever its length, appended to nil. -/
theorem nil_append {P : Program} {w : World} {ops : Array Oper} {rest : List Oper} {o : Oper} {a : Act} {Q : Exit → Act → World → Prop} (hgd : o.guard = none) (s x : Operand) (t : TypeId)
    (ho : o.op = .call { callee := .builtin .append, args := #[s, x], argTypes := #[t, t] })
    (e : TypeId) (i : TypeInfo) (z : Value) (size bytes : Nat) (ht : P.underlying t = some (.slice e)) (hi : P.info? e = some i) (hz : i.zero = some z)
    (hsize : i.size = size) (hby : i.bytes = bytes) (hzs : z.cells.size = size) (hsz : 0 < size) (hs : a.eval s = .slice none 0 0)
    {F : Nat → Prop} (src : Option Addr) (m c : Nat) (news : List Value) (hx : a.eval x = .slice src m c) (hl : news.length = m * size) (hin : RowIn w F src news)
    (h1 : ∀ u ∈ news, u.oneCell' = true) (h63 : m ≤ maxLen) (hbytes : m * bytes ≤ 140737488355328)
    (h : ∀ ad cap w', Below w.heap.size w w' → RowIn w' (fun k => w.heap.size ≤ k) ad news → wpList P ops Q rest (a.put o.dst (.slice ad m cap)) w') : wpList P ops Q (o :: rest) a w := by
  have hown : w.ownsRow w.heap.size e size (.slice none 0 0) 0 [] := ⟨by simp, .inl ⟨rfl, rfl⟩⟩
  by_cases hm : 0 < m
  · have h0 : 0 < m * size := Nat.mul_pos hm hsz
    obtain ⟨b, off, rfl⟩ := hin.src (by omega)
    refine wpList_append_lies w hgd s x t ho w.heap.size e i z size bytes ht hi hz hsize hby hzs hsz _ 0 [] hs hown ⟨b, off, none⟩ m c news hx hl (hin.news b off rfl) h1 hm (by omega) (by simpa using hbytes) (Nat.le_refl _) _ rfl ?_
    intro g cap w' h2 h3 h4 h5
    simp only [Nat.zero_add, List.nil_append] at h2 ⊢
    have hg : w.heap.size ≤ g := by
      rcases h4 with h4 | h4
      · simp [Value.ownBlock] at h4
      · omega
    refine h _ cap w' ⟨h3.os, h3.tape, h3.output, h3.size, fun k hk => h3.block k hk (by simp [Value.ownBlock])⟩ fun j u hj => ⟨g, 0, rfl, hg, ?_⟩
    have hjl := (List.getElem?_eq_some_iff.1 hj).1
    rw [Nat.zero_add, h2.cellAt j (by omega)]
    exact hj
  · obtain rfl : m = 0 := by omega
    obtain rfl : news = [] := List.eq_nil_of_length_eq_zero (by omega)
    have hS : Src P i.size t (.slice src 0 c) 0 [] w := by
      cases src with
      | none => exact Src.ofNil w ht c
      | some ad => exact Src.ofSlice w ht ad 0 c [] (by simp) (fun j u hu => by simp at hu) (by simp)
    have hr := run_append_nothing (P := P) w t t o.type e i ht hi none 0 0 (Nat.le_refl _) (.slice src 0 c) hS
    refine wpList_plain hgd fun K hK => ?_
    unfold Oper.wp execOp
    simp only [ho, resolve, invoke, builtin, Sem.run_bind, Sem.run_pure, Result.andThen_ok, List.map_toArray, List.map_cons, List.map_nil, hs, hx, hr]
    exact hK _ _ (h none 0 w (Below.refl _ _) (RowIn.nil _ _ _))

theorem newBytes_any {F : Nat → Prop} (l : List Int) (a : Option Addr) (cap : Nat) (w : World) (hin : RowIn w F a (bytesV l)) (hl : l.length ≤ 140737488351232) :
    Calls Try.prog 31 #[.slice a l.length cap] w fun e w' => ∃ ad c, e = .returned (.slice ad l.length c) ∧ Below w.heap.size w w' ∧ RowIn w' (fun k => w.heap.size ≤ k) ad (bytesV l) := by
  obtain ⟨i0, hi, hz0, hz1, hz2⟩ := info_parts info5
  have HIN := hide hin
  have hlz : (l.length : Int) ≤ 140737488355328 := by omega
  have HL := hide hl
  clear hin hl
  go_enter Try.func31, Try.ntmps31
  go_wp2_with (at_builtin; go_must (refine nil_append (by rfl) _ _ 31 (by rfl) 5 i0 _ 1 1 Try.underlying31 hi hz0 hz1 hz2 rfl (by omega) (by rfl) a l.length cap (bytesV l) (by rfl) (bytesV_len l) (unhide HIN) (bytes_one l) (by have := unhide HL; unfold maxLen; omega) (by have := unhide HL; omega) ?_); intro ad cp w1 hb hr; have HB := hide hb; have HR := hide hr; clear hb hr)
  go_ret
  exact ⟨ad, cp, rfl, unhide HB, unhide HR⟩
theorem newActs_any {F : Nat → Prop} (l : List ActM) (a : Option Addr) (cap : Nat) (w : World) (hin : RowIn w F a (actRow l)) (hl : l.length * 64 ≤ 140737488351232) :
    Calls Try.prog 32 #[.slice a l.length cap] w fun e w' => ∃ ad c, e = .returned (.slice ad l.length c) ∧ Below w.heap.size w w' ∧ RowIn w' (fun k => w.heap.size ≤ k) ad (actRow l) := by
  obtain ⟨i0, hi, hz0, hz1, hz2⟩ := info_parts info66
  have HIN := hide hin
  have hlz : (l.length : Int) ≤ 140737488355328 := by omega
  have HL := hide hl
  clear hin hl
  go_enter Try.func32, Try.ntmps32
  go_wp2_with (at_builtin; go_must (refine nil_append (by rfl) _ _ 32 (by rfl) 66 i0 _ 6 64 Try.underlying32 hi hz0 hz1 hz2 rfl (by omega) (by rfl) a l.length cap (actRow l) (by rfl) (actRow_len l) (unhide HIN) (acts_one l) (by have := unhide HL; unfold maxLen; omega) (by have := unhide HL; omega) ?_); intro ad cp w1 hb hr; have HB := hide hb; have HR := hide hr; clear hb hr)
  go_ret
  exact ⟨ad, cp, rfl, unhide HB, unhide HR⟩
end Go.Proofs.Ytdfcdgjmjionbaa
