/-
  Package entity's map of the numbers that mean others: made by inserts, one by one; what a look answers.
-/
import Derived.Test.YtdhknaiggnafnaaTh
import Derived.Great.CaseRows
import Derived.ChangeMaps4
namespace Go.Proofs.Ytdhknaiggnafnaa
open Go.RowKit Go.Lib Go.Great
open Go.MapKept

def oth : List (Int × Int) := [(128, 8364), (130, 8218), (131, 402), (132, 8222), (133, 8230), (134, 8224), (135, 8225), (136, 710), (137, 8240), (138, 352), (139, 8249), (140, 338), (142, 381), (145, 8216), (146, 8217), (147, 8220), (148, 8221), (149, 8226), (150, 8211), (151, 8212), (152, 732), (153, 8482), (154, 353), (155, 8250), (156, 339), (158, 382), (159, 376)]
def othM (n : Int) : Option Int := (oth.find? (fun x => x.1 == n)).map (·.2)

def pairV (x : Int × Int) : Value × Value := (.int .i64 x.1, .int .i32 x.2)
/-- A map of numbers in memory. -/
def MapAt (w : World) (r : Nat) (xs : List (Int × Int)) : Prop :=
  ∃ es clock, w.heap[r]? = some (.map es clock) ∧ es.toList.map (fun e => (e.key, e.val)) = xs.map pairV
theorem MapAt.keys {xs : List (Int × Int)} {es : Array MapEntry} (h : es.toList.map (fun e => (e.key, e.val)) = xs.map pairV) : ∀ x ∈ es.toList, ∃ y ∈ xs, x.key = .int .i64 y.1 ∧ x.val = .int .i32 y.2 := by
  intro x hx
  have : (x.key, x.val) ∈ es.toList.map (fun e => (e.key, e.val)) := List.mem_map.2 ⟨x, hx, rfl⟩
  rw [h] at this
  obtain ⟨y, hy, e⟩ := List.mem_map.1 this
  have e1 := congrArg Prod.fst e
  have e2 := congrArg Prod.snd e
  exact ⟨y, hy, e1.symm, e2.symm⟩
theorem MapAt.isKey {xs : List (Int × Int)} {es : Array MapEntry} (h : es.toList.map (fun e => (e.key, e.val)) = xs.map pairV) : ∀ x ∈ es.toList, IsKey (.int .i64) x.key := by
  intro x hx
  obtain ⟨y, _, h1, _⟩ := MapAt.keys h x hx
  rw [h1]; rfl
theorem under3 : Try.prog.underlying 3 = some (.int .i64) := Try.underlying3

theorem MapAt.put {w : World} {r : Nat} {xs : List (Int × Int)} (h : MapAt w r xs) (k v : Int) (hk : ∀ y ∈ xs, y.1 ≠ k) :
    ∃ o, (Instr.mapUpdate 50 (.map (some r)) (.int .i64 k) (.int .i32 v)).run Try.prog w = .ok () { w with heap := w.heap.setIfInBounds r o } ∧ MapAt { w with heap := w.heap.setIfInBounds r o } r (xs ++ [(k, v)]) := by
  obtain ⟨es, clock, hb, hes⟩ := h
  have hkey : IsKey (.int .i64) (.int .i64 k) := rfl
  rcases findNow_spec hkey es.toList 0 (MapAt.isKey hes) with ⟨h1, h2⟩ | ⟨j, e0, h1, h2, h3⟩
  · refine ⟨.map (es.push ⟨.int .i64 k, .int .i32 v, clock⟩) (clock + 1), ?_, ⟨_, _, (heap_set hb).1, ?_⟩⟩
    · simp [Instr.mapUpdate, run_underlying Try.underlying50, MapKept.run_getObj_map hb, run_checkKey under3 hkey, run_findKey under3 h1, MapKept.run_setObj_map _ hb, Result.andThen]
    · rw [Array.toList_push, List.map_append, hes, List.map_append]; rfl
  · obtain ⟨y, hy, q1, _⟩ := MapAt.keys hes e0 (List.mem_of_getElem? h2)
    rw [q1] at h3
    injection h3 with _ h3
    exact absurd h3 (hk y hy)

theorem MapAt.look {w : World} {r : Nat} {xs : List (Int × Int)} (h : MapAt w r xs) (hnd : (xs.map (·.1)).Nodup) (n : Int) :
    (Instr.lookup 50 (.map (some r)) (.int .i64 n) true).run Try.prog w = .ok (.tuple #[.int .i32 (((xs.find? (fun x => x.1 == n)).map (·.2)).getD 0), .bool ((xs.find? (fun x => x.1 == n)).map (·.2)).isSome]) w := by
  obtain ⟨es, clock, hb, hes⟩ := h
  have hkey : IsKey (.int .i64) (.int .i64 n) := rfl
  rcases findNow_spec hkey es.toList 0 (MapAt.isKey hes) with ⟨h1, h2⟩ | ⟨j, e0, h1, h2, h3⟩
  · have h0 : xs.find? (fun x => x.1 == n) = none := by
      rw [List.find?_eq_none]
      intro y hy he
      have hm : pairV y ∈ es.toList.map (fun e => (e.key, e.val)) := by rw [hes]; exact List.mem_map.2 ⟨y, hy, rfl⟩
      obtain ⟨x, hx, hxe⟩ := List.mem_map.1 hm
      apply h2 x hx
      have e1 : x.key = .int .i64 y.1 := congrArg Prod.fst hxe
      rw [e1, beq_iff_eq.1 he]
    rw [h0]
    simp [Instr.lookup, run_underlying Try.underlying50, MapKept.run_getObj_map hb, run_checkKey under3 hkey, run_findKey under3 h1, Result.andThen]
  · obtain ⟨y, hy, q1, q2⟩ := MapAt.keys hes e0 (List.mem_of_getElem? h2)
    have hyn : y.1 = n := by rw [q1] at h3; injection h3
    have h0 : xs.find? (fun x => x.1 == n) = some y := by
      clear hes hb h1 h2 h3
      induction xs with
      | nil => cases hy
      | cons z zs ih =>
        rw [List.map_cons, List.nodup_cons] at hnd
        rcases List.mem_cons.1 hy with rfl | hm
        · exact List.find?_cons_of_pos (by simp [hyn])
        · rw [List.find?_cons_of_neg]
          · exact ih hnd.2 hm
          · intro he
            have : z.1 = y.1 := by rw [hyn]; exact beq_iff_eq.1 he
            exact hnd.1 (by rw [this]; exact List.mem_map.2 ⟨y, hm, rfl⟩)
    rw [q2] at h1
    rw [h0]
    simp [Instr.lookup, run_underlying Try.underlying50, MapKept.run_getObj_map hb, run_checkKey under3 hkey, run_findKey under3 h1, Result.andThen]

/-- The inserts. -/
def insOp (x : Int × Int) : Oper :=
  { dst := none, op := .insert 50 (.tmp 1) (.const (.int .i64 x.1)) (.const (.int .i32 x.2)), type := 0, pos := "number.go:47", after := #[⟨0, .data⟩], guard := none }

theorem wpList_ins {ops : Array Oper} {rest : List Oper} {Q : Exit → Act → World → Prop} (r : Nat) (a : Act) (ha : a.eval (.tmp 1) = .map (some r)) :
    ∀ (xs ys : List (Int × Int)) (w : World), MapAt w r ys → ((ys ++ xs).map (·.1)).Nodup →
      (∀ w' : World, MapAt w' r (ys ++ xs) → Below r w w' → wpList Try.prog ops Q rest a w') → wpList Try.prog ops Q (xs.map insOp ++ rest) a w
  | [], ys, w, hm, _, h => h w (by rw [List.append_nil]; exact hm) (Below.refl _ _)
  | x :: xs, ys, w, hm, hnd, h => by
    have hnd' : (((ys ++ [x]) ++ xs).map (·.1)).Nodup := by rw [List.append_assoc]; exact hnd
    have hk : ∀ y ∈ ys, y.1 ≠ x.1 := by
      intro y hy e
      rw [List.map_append, List.nodup_append] at hnd
      exact hnd.2.2 y.1 (List.mem_map.2 ⟨y, hy, rfl⟩) x.1 (by simp) e
    obtain ⟨o, hrun, hm2⟩ := hm.put x.1 x.2 hk
    have hbel : Below r w { w with heap := w.heap.setIfInBounds r o } := ⟨rfl, rfl, rfl, by simp, fun j hj => by simp only []; rw [Array.getElem?_setIfInBounds_ne (by omega)]⟩
    show wpList Try.prog ops Q (insOp x :: (xs.map insOp ++ rest)) a w
    have hex : (execOp a.eval (insOp x)).run Try.prog w = .ok .skip { w with heap := w.heap.setIfInBounds r o } := by
      unfold execOp insOp
      simp only [ha]
      simp only [Act.eval]
      simp [hrun]
    refine wpList_plain rfl fun K hK => ?_
    unfold Oper.wp
    rw [hex, Oper.upon_skip]
    exact hK _ _ (wpList_ins r a ha xs (ys ++ [x]) _ hm2 hnd' fun w' h1 h2 => h w' (by rw [List.append_assoc] at h1; exact h1) (hbel.trans h2))

theorem oth_nodup : (oth.map (·.1)).Nodup := by decide +kernel

set_option maxRecDepth 100000 in
set_option maxHeartbeats 4000000 in
theorem others_at (w : World) : Calls Try.prog 39 #[] w fun e w' => e = .returned (.map (some w.heap.size)) ∧ MapAt w' w.heap.size oth ∧ Below w.heap.size w w' := by
  refine calls_of_wp Try.func39 rfl ?_
  refine wp_anyFrame 3 (by kernel_rfl) rfl fun a0 hs0 hd0 => ?_
  apply wp_seq_k; intro K0 hK0
  apply wp_region_lit
  refine wpList_readTo rfl (some 0) rfl (.map none) rfl ?_
  apply wpList_nil
  refine hK0 _ _ ?_
  apply wp_seq_k; intro K1 hK1
  apply wp_region_lit
  refine wpList_allocTo rfl (some 1) rfl (.map (some w.heap.size)) (.map #[] 0) rfl ?_
  refine wpList_splitAt 27 (oth.map insOp) (by kernel_rfl) ?_
  refine wpList_ins w.heap.size _ (Act.eval_put_same _ 1 _ (by rw [Act.size_put, hs0]; omega)) oth [] _ ⟨#[], 0, new_block _ _, rfl⟩ (by rw [List.nil_append]; exact oth_nodup) fun w1 hm hb => ?_
  rw [List.nil_append] at hm
  refine wpList_readTo rfl (some 2) rfl (.map (some w.heap.size)) ?_ ?_
  · show (execOp (Act.eval _) _).run Try.prog _ = _
    unfold execOp
    simp only [Act.eval_put_same _ 1 _ (show 1 < (a0.put (some 0) (.map none)).tmps.size by rw [Act.size_put, hs0]; omega)]
    rfl
  refine wpList_readTo rfl (some 0) rfl (.map (some w.heap.size)) ?_ ?_
  · show (execOp (Act.eval _) _).run Try.prog _ = _
    unfold execOp
    simp only [Act.eval_put_same _ 2 _ (show 2 < ((a0.put (some 0) (.map none)).put (some 1) (.map (some w.heap.size))).tmps.size by rw [Act.size_put, Act.size_put, hs0]; omega)]
    rfl
  apply wpList_nil
  refine hK1 _ _ ?_
  apply wp_ret
  refine bodyPost_ret (v := .map (some w.heap.size)) ?_ (by simp only [Act.defers_put', hd0]) ⟨rfl, hm, ((Below.refl _ _).alloc (Nat.le_refl _) _).trans hb⟩
  refine (results_tmp (t := 0) rfl _ _ _).trans ?_
  have e := Act.eval_put_same (((a0.put (some 0) (.map none)).put (some 1) (.map (some w.heap.size))).put (some 2) (.map (some w.heap.size))) 0 (.map (some w.heap.size)) (by rw [Act.size_put, Act.size_put, Act.size_put, hs0]; omega)
  exact congrArg (fun v => Result.ok v _) e
end Go.Proofs.Ytdhknaiggnafnaa
