/-
  The document's two tables of names (functions 22 and 23): a literal of many rows, whatever their number.
-/
import Derived.Test.YtdhknaiggnafnaaTa
import Derived.Great.CaseRows
namespace Go.Proofs.Ytdhknaiggnafnaa
open Go.RowKit Go.Lib Go.Great

/-- The operation that builds one row, and all of them. -/
def nmOp (t : TypeId) (pos : String) (d : Nat) (x : ByteArray × Int) : Oper :=
  { dst := some d, op := .build t #[(0, .const (.string x.1)), (1, .const (.int .i32 x.2))], type := t, pos := pos, after := #[], guard := none }
def nmOps (t : TypeId) (pos : String) : Nat → List (ByteArray × Int) → List Oper
  | _, [] => []
  | d, x :: xs => nmOp t pos d x :: nmOps t pos (d + 1) xs

theorem wpList_nms {P : Program} {ops : Array Oper} {rest : List Oper} {w : World} {Q : Exit → Act → World → Prop} (t : TypeId) (pos : String)
    (hb : ∀ (s : ByteArray) (n : Int), P.built t [(0, .string s), (1, .int .i32 n)] = some #[.string s, .int .i32 n]) :
    ∀ (xs : List (ByteArray × Int)) (d : Nat) (a : Act), d + xs.length ≤ a.tmps.size →
      (∀ a' : Act, a'.tmps.size = a.tmps.size → a'.defers = a.defers → (∀ i (h : i < xs.length), a'.eval (.tmp (d + i)) = .agg (cells2 xs[i]).toArray) →
        (∀ j, j < d → a'.eval (.tmp j) = a.eval (.tmp j)) → wpList P ops Q rest a' w) →
      wpList P ops Q (nmOps t pos d xs ++ rest) a w
  | [], d, a, _, h => h a rfl rfl (fun i hi => absurd hi (by simp)) (fun _ _ => rfl)
  | x :: xs, d, a, hd, h => by
    have hlt : d < a.tmps.size := by simp at hd; omega
    show wpList P ops Q (nmOp t pos d x :: (nmOps t pos (d + 1) xs ++ rest)) a w
    refine wpList_buildTo rfl t _ rfl (some d) rfl (cells2 x).toArray (by simpa [Act.eval, cells2] using hb x.1 x.2) ?_
    refine wpList_nms t pos hb xs (d + 1) _ (by rw [Act.size_put]; simp at hd; omega) fun a' hs hdf hev hlow => ?_
    refine h a' (hs.trans (Act.size_put _ _ _)) (hdf.trans (Act.defers_put' _ _ _)) (fun i hi => ?_) (fun j hj => ?_)
    · cases i with
      | zero => rw [Nat.add_zero, hlow d (by omega), Act.eval_put_same _ _ _ hlt]; rfl
      | succ i =>
        have := hev i (by simpa using hi)
        rw [show d + (i + 1) = d + 1 + i by omega, this]
        rfl
    · rw [hlow j (by omega), Act.eval_put_ne _ _ _ _ (by omega)]

theorem wpList_buildNms {P : Program} {ops : Array Oper} {rest : List Oper} {o : Oper} {a : Act} {w : World} {Q : Exit → Act → World → Prop} (hg : o.guard = none) (t e : TypeId) (parts : Array (Nat × Operand)) (T : List (ByteArray × Int)) (len : Nat) (hlen : len = T.length)
    (ho : o.op = .buildSlice t len parts) (d : Nat) (N : Nat) (hN : w.heap.size = N) (dst : Option Tmp) (hdst : o.dst = dst)
    (hu : P.underlying t = some (.slice e)) (hsz : (P.info? e).map (·.size) = some 2) (hz : ((P.info? e).bind (·.zero)).isSome = true)
    (hpos : 0 < len) (hsmall : len * 2 ≤ 2 ^ 24)
    (hparts : parts.toList = (List.range len).map fun i => (i, Operand.tmp (d + i)))
    (hev : ∀ i (h : i < T.length), a.eval (.tmp (d + i)) = .agg (cells2 T[i]).toArray)
    (h : wpList P ops Q rest (a.put dst (.slice (some ⟨N, 0, none⟩) len len)) (w.alloc (.cells (tcells T) e))) : wpList P ops Q (o :: rest) a w := by
  subst hlen
  have hl : (T.map fun x => Value.agg (cells2 x).toArray).length = T.length := by simp
  refine wpList_buildRows hg t e parts 2 (T.map fun x => Value.agg (cells2 x).toArray) (by rw [hl]; exact ho) (fun i => d + i) N hN dst hdst hu hsz hz (by omega) (by rw [hl]; exact hpos) (by rw [hl]; exact hsmall)
    (by rw [hl]; exact hparts) (fun v hv => by obtain ⟨x, _, rfl⟩ := List.mem_map.1 hv; rfl) (fun i hi => by rw [hev i (by simpa using hi)]; simp) ?_
  rw [hl]
  have : ((T.map fun x => Value.agg (cells2 x).toArray).flatMap fun v => v.cells.toList) = T.flatMap cells2 := by simp [List.flatMap_map, Value.cells]
  rw [this]
  exact h

set_option maxRecDepth 1000000 in
set_option maxHeartbeats 4000000 in
theorem olds_at (w : World) : Calls Try.prog 22 #[] w fun e w' => e = .returned (.slice (some ⟨w.heap.size, 0, none⟩) 106 106) ∧ w' = w.alloc (.cells (tcells olds) 41) := by
  refine calls_of_wp Try.func22 rfl ?_
  refine wp_anyFrame 108 (by kernel_rfl) rfl fun a0 hs0 hd0 => ?_
  apply wp_seq_k; intro K0 hK0
  apply wp_region_lit
  refine wpList_readTo rfl (some 0) rfl (.slice none 0 0) rfl ?_
  apply wpList_nil
  refine hK0 _ _ ?_
  apply wp_seq_k; intro K1 hK1
  apply wp_region_lit
  refine wpList_splitAt 106 (nmOps 41 "ref.go:12" 1 olds) (by kernel_rfl) ?_
  refine wpList_nms 41 "ref.go:12" (fun _ _ => by kernel_rfl) olds 1 _ (by simp only [Act.size_put, hs0]; exact Nat.le_of_ble_eq_true (by kernel_rfl)) fun b0 hb0 hbd0 hev0 _ => ?_
  refine wpList_buildNms rfl 38 41 _ olds 106 (by kernel_rfl) rfl 1 w.heap.size rfl (some 107) rfl (by kernel_rfl) (by kernel_rfl) (by kernel_rfl) (by decide) (by decide) (by kernel_rfl) hev0 ?_
  refine wpList_readTo rfl (some 0) rfl (.slice (some ⟨w.heap.size, 0, none⟩) 106 106) ?_ ?_
  · show (execOp (Act.eval _) _).run Try.prog _ = _
    unfold execOp
    simp only [Act.eval_put_same _ 107 _ (show 107 < b0.tmps.size by rw [hb0, Act.size_put, hs0]; omega)]
    rfl
  apply wpList_nil
  refine hK1 _ _ ?_
  apply wp_ret
  refine bodyPost_ret (v := .slice (some ⟨w.heap.size, 0, none⟩) 106 106) ?_ (by simp only [Act.defers_put', hbd0, hd0]) ⟨rfl, rfl⟩
  refine (results_tmp (t := 0) rfl _ _ _).trans ?_
  have e := Act.eval_put_same ((b0.put (some 107) (.slice (some ⟨w.heap.size, 0, none⟩) 106 106))) 0 (.slice (some ⟨w.heap.size, 0, none⟩) 106 106) (by rw [Act.size_put, hb0, Act.size_put, hs0]; omega)
  exact congrArg (fun v => Result.ok v _) e

set_option maxRecDepth 1000000 in
set_option maxHeartbeats 4000000 in
theorem news_at (w : World) : Calls Try.prog 23 #[] w fun e w' => e = .returned (.slice (some ⟨w.heap.size, 0, none⟩) 141 141) ∧ w' = w.alloc (.cells (tcells news) 41) := by
  refine calls_of_wp Try.func23 rfl ?_
  refine wp_anyFrame 143 (by kernel_rfl) rfl fun a0 hs0 hd0 => ?_
  apply wp_seq_k; intro K0 hK0
  apply wp_region_lit
  refine wpList_readTo rfl (some 0) rfl (.slice none 0 0) rfl ?_
  apply wpList_nil
  refine hK0 _ _ ?_
  apply wp_seq_k; intro K1 hK1
  apply wp_region_lit
  refine wpList_splitAt 141 (nmOps 41 "ref.go:29" 1 news) (by kernel_rfl) ?_
  refine wpList_nms 41 "ref.go:29" (fun _ _ => by kernel_rfl) news 1 _ (by simp only [Act.size_put, hs0]; exact Nat.le_of_ble_eq_true (by kernel_rfl)) fun b0 hb0 hbd0 hev0 _ => ?_
  refine wpList_buildNms rfl 38 41 _ news 141 (by kernel_rfl) rfl 1 w.heap.size rfl (some 142) rfl (by kernel_rfl) (by kernel_rfl) (by kernel_rfl) (by decide) (by decide) (by kernel_rfl) hev0 ?_
  refine wpList_readTo rfl (some 0) rfl (.slice (some ⟨w.heap.size, 0, none⟩) 141 141) ?_ ?_
  · show (execOp (Act.eval _) _).run Try.prog _ = _
    unfold execOp
    simp only [Act.eval_put_same _ 142 _ (show 142 < b0.tmps.size by rw [hb0, Act.size_put, hs0]; omega)]
    rfl
  apply wpList_nil
  refine hK1 _ _ ?_
  apply wp_ret
  refine bodyPost_ret (v := .slice (some ⟨w.heap.size, 0, none⟩) 141 141) ?_ (by simp only [Act.defers_put', hbd0, hd0]) ⟨rfl, rfl⟩
  refine (results_tmp (t := 0) rfl _ _ _).trans ?_
  have e := Act.eval_put_same ((b0.put (some 142) (.slice (some ⟨w.heap.size, 0, none⟩) 141 141))) 0 (.slice (some ⟨w.heap.size, 0, none⟩) 141 141) (by rw [Act.size_put, hb0, Act.size_put, hs0]; omega)
  exact congrArg (fun v => Result.ok v _) e
end Go.Proofs.Ytdhknaiggnafnaa
