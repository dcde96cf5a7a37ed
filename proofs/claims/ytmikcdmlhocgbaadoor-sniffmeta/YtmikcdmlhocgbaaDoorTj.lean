/-
  Package sniff's Choose; what an append does to bytes.
-/
import Derived.Test.YtmikcdmlhocgbaaDoorTh
namespace Go.Proofs.YtmikcdmlhocgbaaDoor
open Go.RowKit Go.Lib

def chooseV (m : Int × Int × Int) (o p : Int × Int) : Int × Int := if m.2.2 = 0 then (m.1, m.2.1) else if o.2 = 0 then (o.1, 0) else if p.2 = 0 then (p.1, 0) else (3, 0)
def Chosen (w : World) (v : Value) (end_ : Bool) (s : ByteArray) (r : Int × Int) : Prop := Calls Tryd.prog 17 #[v, .bool end_, .string s] w fun e w' => e = .returned (.tuple #[.int .i64 r.1, .int .i64 r.2, .bool true]) ∧ Below w.heap.size w w'


set_option maxRecDepth 8000 in
set_option maxHeartbeats 1000000 in
theorem choose_f (w : World) (g cap n : Nat) (s : ByteArray) (m1 m2 m3 o1 o2 p1 p2 : Int) (hn : ¬ (n : Int) < 1024)
    (hM : Calls Tryd.prog 10 #[.slice (some ⟨g, 0, none⟩) n cap] w fun e w' => e = .returned (.tuple #[.int .i64 m1, .int .i64 m2, .int .i64 m3]) ∧ Below w.heap.size w w')
    (hO : ∀ W, Calls Tryd.prog 36 #[.string s] W fun e w' => e = .returned (.tuple #[.int .i64 o1, .int .i64 o2]) ∧ Below W.heap.size W w')
    (hP : ∀ W, Below w.heap.size w W → Calls Tryd.prog 13 #[.slice (some ⟨g, 0, none⟩) n cap] W fun e w' => e = .returned (.tuple #[.int .i64 p1, .int .i64 p2]) ∧ Below W.heap.size W w') :
    Chosen w (.slice (some ⟨g, 0, none⟩) n cap) false s (chooseV (m1, m2, m3) (o1, o2) (p1, p2)) := by
  have HMK := hide hM
  have HOF := hide hO
  have HPS := hide hP
  clear hM hO hP
  unfold Chosen chooseV
  simp only
  by_cases h1 : m3 = 0
  · rw [if_pos h1]
    have z1 : (m3 == 0) = true := by simpa using h1
    clear h1
    go_enter Tryd.func17, Tryd.ntmps17
    go_wp2_with (first
    | (go_at_call 10; refine (unhide HMK).mono ?_; rintro e w1 ⟨rfl, hb1⟩; have HB1 := hide hb1; clear hb1)
    | (go_at_call 36; refine ((unhide HOF) _).mono ?_; rintro e w2 ⟨rfl, hb2⟩; have HB2 := hide ((unhide HB1).trans (hb2.mono (unhide HB1).size)); clear hb2)
    | (go_at_call 13; refine ((unhide HPS) _ (unhide HB2)).mono ?_; rintro e w3 ⟨rfl, hb3⟩; have HB3 := hide ((unhide HB2).trans (hb3.mono (unhide HB2).size)); clear hb3))
    go_ret3
    exact ⟨rfl, unhide HB1⟩
  · rw [if_neg h1]
    have z1 : (m3 == 0) = false := by simpa using h1
    by_cases h2 : o2 = 0
    · rw [if_pos h2]
      have z2 : (o2 == 0) = true := by simpa using h2
      clear h1 h2
      go_enter Tryd.func17, Tryd.ntmps17
      go_wp2_with (first
    | (go_at_call 10; refine (unhide HMK).mono ?_; rintro e w1 ⟨rfl, hb1⟩; have HB1 := hide hb1; clear hb1)
    | (go_at_call 36; refine ((unhide HOF) _).mono ?_; rintro e w2 ⟨rfl, hb2⟩; have HB2 := hide ((unhide HB1).trans (hb2.mono (unhide HB1).size)); clear hb2)
    | (go_at_call 13; refine ((unhide HPS) _ (unhide HB2)).mono ?_; rintro e w3 ⟨rfl, hb3⟩; have HB3 := hide ((unhide HB2).trans (hb3.mono (unhide HB2).size)); clear hb3))
      go_ret3
      exact ⟨rfl, unhide HB2⟩
    · rw [if_neg h2]
      have z2 : (o2 == 0) = false := by simpa using h2
      by_cases h3 : p2 = 0
      · rw [if_pos h3]
        have z3 : (p2 == 0) = true := by simpa using h3
        clear h1 h2 h3
        go_enter Tryd.func17, Tryd.ntmps17
        go_wp2_with (first
    | (go_at_call 10; refine (unhide HMK).mono ?_; rintro e w1 ⟨rfl, hb1⟩; have HB1 := hide hb1; clear hb1)
    | (go_at_call 36; refine ((unhide HOF) _).mono ?_; rintro e w2 ⟨rfl, hb2⟩; have HB2 := hide ((unhide HB1).trans (hb2.mono (unhide HB1).size)); clear hb2)
    | (go_at_call 13; refine ((unhide HPS) _ (unhide HB2)).mono ?_; rintro e w3 ⟨rfl, hb3⟩; have HB3 := hide ((unhide HB2).trans (hb3.mono (unhide HB2).size)); clear hb3))
        go_ret3
        exact ⟨rfl, unhide HB3⟩
      · rw [if_neg h3]
        have z3 : (p2 == 0) = false := by simpa using h3
        clear h1 h2 h3
        go_enter Tryd.func17, Tryd.ntmps17
        go_wp2_with (first
    | (go_at_call 10; refine (unhide HMK).mono ?_; rintro e w1 ⟨rfl, hb1⟩; have HB1 := hide hb1; clear hb1)
    | (go_at_call 36; refine ((unhide HOF) _).mono ?_; rintro e w2 ⟨rfl, hb2⟩; have HB2 := hide ((unhide HB1).trans (hb2.mono (unhide HB1).size)); clear hb2)
    | (go_at_call 13; refine ((unhide HPS) _ (unhide HB2)).mono ?_; rintro e w3 ⟨rfl, hb3⟩; have HB3 := hide ((unhide HB2).trans (hb3.mono (unhide HB2).size)); clear hb3))
        go_ret3
        exact ⟨rfl, unhide HB3⟩

set_option maxRecDepth 8000 in
set_option maxHeartbeats 1000000 in
theorem choose_t (w : World) (g cap n : Nat) (s : ByteArray) (m1 m2 m3 o1 o2 p1 p2 : Int)
    (hM : Calls Tryd.prog 10 #[.slice (some ⟨g, 0, none⟩) n cap] w fun e w' => e = .returned (.tuple #[.int .i64 m1, .int .i64 m2, .int .i64 m3]) ∧ Below w.heap.size w w')
    (hO : ∀ W, Calls Tryd.prog 36 #[.string s] W fun e w' => e = .returned (.tuple #[.int .i64 o1, .int .i64 o2]) ∧ Below W.heap.size W w')
    (hP : ∀ W, Below w.heap.size w W → Calls Tryd.prog 13 #[.slice (some ⟨g, 0, none⟩) n cap] W fun e w' => e = .returned (.tuple #[.int .i64 p1, .int .i64 p2]) ∧ Below W.heap.size W w') :
    Chosen w (.slice (some ⟨g, 0, none⟩) n cap) true s (chooseV (m1, m2, m3) (o1, o2) (p1, p2)) := by
  have HMK := hide hM
  have HOF := hide hO
  have HPS := hide hP
  clear hM hO hP
  unfold Chosen chooseV
  simp only
  by_cases h1 : m3 = 0
  · rw [if_pos h1]
    have z1 : (m3 == 0) = true := by simpa using h1
    clear h1
    go_enter Tryd.func17, Tryd.ntmps17
    go_wp2_with (first
    | (go_at_call 10; refine (unhide HMK).mono ?_; rintro e w1 ⟨rfl, hb1⟩; have HB1 := hide hb1; clear hb1)
    | (go_at_call 36; refine ((unhide HOF) _).mono ?_; rintro e w2 ⟨rfl, hb2⟩; have HB2 := hide ((unhide HB1).trans (hb2.mono (unhide HB1).size)); clear hb2)
    | (go_at_call 13; refine ((unhide HPS) _ (unhide HB2)).mono ?_; rintro e w3 ⟨rfl, hb3⟩; have HB3 := hide ((unhide HB2).trans (hb3.mono (unhide HB2).size)); clear hb3))
    go_ret3
    exact ⟨rfl, unhide HB1⟩
  · rw [if_neg h1]
    have z1 : (m3 == 0) = false := by simpa using h1
    by_cases h2 : o2 = 0
    · rw [if_pos h2]
      have z2 : (o2 == 0) = true := by simpa using h2
      clear h1 h2
      go_enter Tryd.func17, Tryd.ntmps17
      go_wp2_with (first
    | (go_at_call 10; refine (unhide HMK).mono ?_; rintro e w1 ⟨rfl, hb1⟩; have HB1 := hide hb1; clear hb1)
    | (go_at_call 36; refine ((unhide HOF) _).mono ?_; rintro e w2 ⟨rfl, hb2⟩; have HB2 := hide ((unhide HB1).trans (hb2.mono (unhide HB1).size)); clear hb2)
    | (go_at_call 13; refine ((unhide HPS) _ (unhide HB2)).mono ?_; rintro e w3 ⟨rfl, hb3⟩; have HB3 := hide ((unhide HB2).trans (hb3.mono (unhide HB2).size)); clear hb3))
      go_ret3
      exact ⟨rfl, unhide HB2⟩
    · rw [if_neg h2]
      have z2 : (o2 == 0) = false := by simpa using h2
      by_cases h3 : p2 = 0
      · rw [if_pos h3]
        have z3 : (p2 == 0) = true := by simpa using h3
        clear h1 h2 h3
        go_enter Tryd.func17, Tryd.ntmps17
        go_wp2_with (first
    | (go_at_call 10; refine (unhide HMK).mono ?_; rintro e w1 ⟨rfl, hb1⟩; have HB1 := hide hb1; clear hb1)
    | (go_at_call 36; refine ((unhide HOF) _).mono ?_; rintro e w2 ⟨rfl, hb2⟩; have HB2 := hide ((unhide HB1).trans (hb2.mono (unhide HB1).size)); clear hb2)
    | (go_at_call 13; refine ((unhide HPS) _ (unhide HB2)).mono ?_; rintro e w3 ⟨rfl, hb3⟩; have HB3 := hide ((unhide HB2).trans (hb3.mono (unhide HB2).size)); clear hb3))
        go_ret3
        exact ⟨rfl, unhide HB3⟩
      · rw [if_neg h3]
        have z3 : (p2 == 0) = false := by simpa using h3
        clear h1 h2 h3
        go_enter Tryd.func17, Tryd.ntmps17
        go_wp2_with (first
    | (go_at_call 10; refine (unhide HMK).mono ?_; rintro e w1 ⟨rfl, hb1⟩; have HB1 := hide hb1; clear hb1)
    | (go_at_call 36; refine ((unhide HOF) _).mono ?_; rintro e w2 ⟨rfl, hb2⟩; have HB2 := hide ((unhide HB1).trans (hb2.mono (unhide HB1).size)); clear hb2)
    | (go_at_call 13; refine ((unhide HPS) _ (unhide HB2)).mono ?_; rintro e w3 ⟨rfl, hb3⟩; have HB3 := hide ((unhide HB2).trans (hb3.mono (unhide HB2).size)); clear hb3))
        go_ret3
        exact ⟨rfl, unhide HB3⟩

theorem choose_any (w : World) (g cap : Nat) (l : List UInt8) (end_ : Bool) (s : ByteArray) (hb : BytesIn w (some ⟨g, 0, none⟩) l) (hc : l.length ≤ cap) (hn : 1024 ≤ l.length) (hs : s.size ≤ 9223372036854775807) :
    Chosen w (.slice (some ⟨g, 0, none⟩) l.length cap) end_ s (chooseV (markM l) (ofE (norm s.data.toList), ofF (norm s.data.toList)) (prescanM l)) := by
  have hM := mark_any w g cap l hb hc
  have hO := fun W => of_any s W hs
  have hP := fun W (h : Below w.heap.size w W) => prescan_any W (some ⟨g, 0, none⟩) cap l (hb.below h) hc
  cases end_ with
  | false => exact choose_f w g cap l.length s _ _ _ _ _ _ _ (by omega) hM hO hP
  | true => exact choose_t w g cap l.length s _ _ _ _ _ _ _ hM hO hP

/-- A list, whatever its length, appended to one that is there. -/
theorem ap_append {P : Program} {w : World} {ops : Array Oper} {rest : List Oper} {o : Oper} {a : Act} {Q : Exit → Act → World → Prop} (hgd : o.guard = none) (s x : Operand) (t : TypeId)
    (ho : o.op = .call { callee := .builtin .append, args := #[s, x], argTypes := #[t, t] })
    (base : Nat) (e : TypeId) (i : TypeInfo) (z : Value) (size bytes : Nat) (ht : P.underlying t = some (.slice e)) (hi : P.info? e = some i) (hz : i.zero = some z)
    (hsize : i.size = size) (hby : i.bytes = bytes) (hzs : z.cells.size = size) (hsz : 0 < size)
    (g0 n c0 : Nat) (xs : List Value) (hs : a.eval s = .slice (some ⟨g0, 0, none⟩) n c0) (hown : w.ownsRow base e size (.slice (some ⟨g0, 0, none⟩) n c0) n xs) (hbase : base ≤ w.heap.size) (hg0 : g0 < w.heap.size)
    (src : Option Addr) (m c : Nat) (news : List Value) (hx : a.eval x = .slice src m c) (hl : news.length = m * size) (hnews : ∀ b off, src = some ⟨b, off, none⟩ → ∀ j u, news[j]? = some u → w.cell? ((⟨b, off, none⟩ : Addr).add j) = some u)
    (hsrc : 0 < m → ∃ b off, src = some ⟨b, off, none⟩) (h1 : ∀ u ∈ news, u.oneCell' = true) (h63 : n + m ≤ maxLen) (hbytes : (n + m) * bytes ≤ 140737488355328)
    (h : ∀ g cap w', w'.ownsRow base e size (.slice (some ⟨g, 0, none⟩) (n + m) cap) (n + m) (xs ++ news) → w.grownBy w' (some g0) → g < w'.heap.size → wpList P ops Q rest (a.put o.dst (.slice (some ⟨g, 0, none⟩) (n + m) cap)) w') : wpList P ops Q (o :: rest) a w := by
  by_cases hm : 0 < m
  · obtain ⟨b, off, rfl⟩ := hsrc hm
    refine wpList_append_lies w hgd s x t ho base e i z size bytes ht hi hz hsize hby hzs hsz _ n xs hs hown ⟨b, off, none⟩ m c news hx hl (hnews b off rfl) h1 hm h63 hbytes hbase _ rfl ?_
    intro g cap w' h2 h3 _ h5
    exact h g cap w' h2 h3 h5
  · obtain rfl : m = 0 := by omega
    obtain rfl : news = [] := List.eq_nil_of_length_eq_zero (by omega)
    have hS : Src P i.size t (.slice src 0 c) 0 [] w := by
      cases src with
      | none => exact Src.ofNil w ht c
      | some ad => exact Src.ofSlice w ht ad 0 c [] (by simp) (fun j u hu => by simp at hu) (by simp)
    have hr := run_append_nothing (P := P) w t t o.type e i ht hi (some ⟨g0, 0, none⟩) n c0 (cp_cap hown) (.slice src 0 c) hS
    refine wpList_plain hgd fun K hK => ?_
    unfold Oper.wp execOp
    simp only [ho, resolve, invoke, builtin, Sem.run_bind, Sem.run_pure, Result.andThen_ok, List.map_toArray, List.map_cons, List.map_nil, hs, hx, hr]
    refine hK _ _ (h g0 c0 w (by simpa using hown) ⟨rfl, rfl, rfl, Nat.le_refl _, fun _ _ _ => rfl⟩ hg0)
end Go.Proofs.YtmikcdmlhocgbaaDoor
