import Derived.Test.YtmllhebmaldgfaaOb
/-
  awake; StackOrder's elements, plain.
-/
namespace Go.Proofs.Ytmllhebmaldgfaa
open Go.RowKit

set_option maxHeartbeats 1000000 in
theorem awake_any (w : World) : Calls Try.prog 16 #[] w fun e w' => e = .returned (.bool true) ∧ Below w.heap.size w w' := by
  have H0 := hide (Env.start w)
  go_enter Try.func16, Try.ntmps16
  go_wp2_with (first
    | (go_at_call 26; refine (env_new (unhide H0)).mono ?_; rintro e w1 ⟨bA, rfl, hv⟩; have H1 := hide hv; clear hv)
    | (go_at_call 10; refine (env_snew (unhide H1) (i := 0) (bA := bA) rfl).mono ?_; rintro e w2 ⟨bK, rfl, hv⟩; have H2 := hide hv; clear hv)
    | (go_at_call 24; refine (env_top (unhide H2) (i := 0) (j := 1) (bK := bK) (bA := bA) (L := []) rfl rfl (by decide) (Good.nil _)).mono ?_; rintro e w3 ⟨rfl, rfl⟩; simp only [topM_nil]))
  go_ret
  exact ⟨rfl, (unhide H2).bel⟩

theorem env_awake {w wx : World} {obs : List (Ob w.heap.size)} (h : Env w wx obs) : Calls Try.prog 16 #[] wx fun e w' => e = .returned (.bool true) ∧ Env w w' obs :=
  (awake_any wx).mono fun _ _ ⟨a, b⟩ => ⟨a, h.more b⟩

def pB : ByteArray := ⟨#[112]⟩
def ksN (n : Nat) : List Key := ⟨0, 0, emptyS⟩ :: List.replicate n ⟨1, 0, pB⟩
def upTo (n : Nat) : List Int := (List.range n).map fun (j : Nat) => (j : Int) + 1
theorem ksN_len (n : Nat) : (ksN n).length = n + 1 := by simp [ksN]
theorem upTo_len (n : Nat) : (upTo n).length = n := by simp [upTo]
theorem upTo_succ (n : Nat) : upTo (n + 1) = upTo n ++ [(n : Int) + 1] := by simp [upTo, List.range_succ]
theorem upTo_mem {n : Nat} {x : Int} : x ∈ upTo n ↔ 1 ≤ x ∧ x ≤ n := by
  unfold upTo
  rw [List.mem_map]
  constructor
  · rintro ⟨j, hj, rfl⟩
    have := List.mem_range.1 hj
    omega
  · rintro ⟨h1, h2⟩
    exact ⟨(x - 1).toNat, List.mem_range.2 (by omega), by omega⟩
theorem upTo_nodup (n : Nat) : (upTo n).Nodup := by
  induction n with
  | zero => simp [upTo]
  | succ n ih =>
    rw [upTo_succ, List.nodup_append]
    refine ⟨ih, by simp, ?_⟩
    intro a ha b hb e
    simp at hb
    subst hb e
    have := (upTo_mem.1 ha).2
    omega
theorem ksN_succ (n : Nat) : ksN n ++ [⟨1, 0, pB⟩] = ksN (n + 1) := by
  unfold ksN
  rw [List.replicate_succ']
  rfl
theorem elemK_p (n : Nat) (hn : n ≤ 100) : elemK (ksN n) 0 pB = (ksN (n + 1), (n : Int) + 1, 0) := by
  unfold elemK addK
  rw [if_neg (by omega), if_neg (by decide +kernel), if_neg (by decide +kernel), ksN_len, if_pos (by omega), ksN_succ]
  simp
theorem elOf_ksN {n : Nat} {x : Int} (h : 1 ≤ x ∧ x ≤ n) : (elOf (ksN n) x).isSome = true := by
  obtain ⟨i, rfl⟩ : ∃ i : Nat, x = (i : Int) + 1 := ⟨(x - 1).toNat, by omega⟩
  have : keyAt (ksN n) ((i : Int) + 1) = some ⟨1, 0, pB⟩ := by
    unfold keyAt
    rw [if_pos (by omega), show ((i : Int) + 1).toNat = i + 1 by omega]
    show (List.replicate n (⟨1, 0, pB⟩ : Key))[i]? = some _
    rw [List.getElem?_replicate, if_pos (by omega)]
  rw [elOf_key this]
  rfl
theorem good_N (n m : Nat) (h : m ≤ n) : Good (ksN n) (upTo m) := ⟨upTo_nodup m, fun x hx => elOf_ksN (by have := upTo_mem.1 hx; omega)⟩
theorem enter_new (n : Nat) : enterE (ksN (n + 1)) (upTo n) ((n : Int) + 1) = 0 := by
  unfold enterE
  rw [if_pos (elOf_ksN (by omega)), if_neg (fun h => by have := upTo_mem.1 h; omega)]
theorem enter_old (n : Nat) : enterE (ksN (n + 1)) (upTo (n + 1)) ((n : Int) + 1) = 1 := by
  unfold enterE
  rw [if_pos (elOf_ksN (by omega)), if_pos (upTo_mem.2 (by omega))]
theorem push_new (n : Nat) : pushL (ksN (n + 1)) (upTo n) ((n : Int) + 1) = upTo (n + 1) := by
  unfold pushL
  rw [if_pos (enter_new n), upTo_succ]
theorem push_old (n : Nat) : pushL (ksN (n + 1)) (upTo (n + 1)) ((n : Int) + 1) = upTo (n + 1) := by
  unfold pushL
  rw [enter_old, if_neg (by decide)]
theorem upTo_last (n : Nat) : (upTo (n + 1))[n]? = some ((n : Int) + 1) := by
  rw [upTo_succ, List.getElem?_append_right (by rw [upTo_len]; omega), upTo_len]
  simp
theorem find_new (n : Nat) : findM (upTo (n + 1)) ((n : Int) + 1) = n := by
  rw [findM, if_pos (upTo_mem.2 (by omega)), idxOf_at (upTo_nodup _) (upTo_last n)]
theorem top_upTo (n : Nat) : topM (upTo (n + 1)) = (n : Int) + 1 := by
  unfold topM
  rw [upTo_len, show (((n + 1 : Nat) : Int) - 1) = (n : Int) by omega]
  exact atM_in (upTo_last n)
theorem pop_upTo (n : Nat) : popL (upTo (n + 1)) = upTo n := by
  unfold popL
  rw [upTo_len, Nat.add_sub_cancel, upTo_succ, List.take_left' (upTo_len n)]
theorem find_gone (n : Nat) : findM (upTo n) ((n : Int) + 1) = -1 := findM_out (fun h => by have := upTo_mem.1 h; omega)
theorem enter_doc (n : Nat) (L : List Int) : enterE (ksN n) L 0 = 6 := by
  have : elOf (ksN n) 0 = none := by
    have hk : keyAt (ksN n) 0 = some ⟨0, 0, emptyS⟩ := rfl
    rw [elOf_key hk]
    rfl
  unfold enterE
  rw [this]
  rfl
end Go.Proofs.Ytmllhebmaldgfaa
