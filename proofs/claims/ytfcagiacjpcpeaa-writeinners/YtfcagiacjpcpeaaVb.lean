/-
  An attribute as text.
-/
import Derived.Test.YtfcagiacjpcpeaaVa
import Derived.Test.YtfcagiacjpcpeaaNode
namespace Go.Proofs.Ytfcagiacjpcpeaa
open Go.RowKit Go.Lib

def xlinkB : ByteArray := ⟨#[120, 108, 105, 110, 107, 58]⟩
def xmlB : ByteArray := ⟨#[120, 109, 108, 58]⟩
def xmlnsB : ByteArray := ⟨#[120, 109, 108, 110, 115, 58]⟩
def aheadB (x : AttrM) : ByteArray := if x.space = 3 then xlinkB else if x.space = 4 then xmlB else if x.space = 5 then (if x.name.toList == [120, 109, 108, 110, 115] then ⟨#[]⟩ else xmlnsB) else ⟨#[]⟩

set_option maxHeartbeats 1000000 in
theorem ahead_any (x : AttrM) (w : World) : Calls Try.prog 80 #[.agg #[.int .i64 x.space, .string x.pre, .string x.name, .string x.val]] w fun e w' => e = .returned (.string (aheadB x)) ∧ Below w.heap.size w w' := by
  have HB := hidE (below_new w (.cells #[.int .i64 x.space, .string x.pre, .string x.name, .string x.val] 96))
  unfold aheadB xlinkB xmlB xmlnsB
  by_cases h3 : x.space = 3
  · rw [if_pos h3]
    rw [h3] at HB ⊢
    clear h3
    go_enter Try.func80, Try.ntmps80
    go_wp2
    go_ret
    exact ⟨rfl, unhidE HB⟩
  · rw [if_neg h3]
    by_cases h4 : x.space = 4
    · rw [if_pos h4]
      rw [h4] at HB ⊢
      clear h3 h4
      go_enter Try.func80, Try.ntmps80
      go_wp2
      go_ret
      exact ⟨rfl, unhidE HB⟩
    · rw [if_neg h4]
      by_cases h5 : x.space = 5
      · rw [if_pos h5]
        rw [h5] at HB ⊢
        clear h3 h4 h5
        cases hq : (x.name.toList == [120, 109, 108, 110, 115]) with
        | true =>
          go_enter Try.func80, Try.ntmps80
          go_wp2
          go_ret
          exact ⟨rfl, unhidE HB⟩
        | false =>
          go_enter Try.func80, Try.ntmps80
          go_wp2
          go_ret
          exact ⟨rfl, unhidE HB⟩
      · rw [if_neg h5]
        have q3 : (x.space == 3) = false := by simpa using h3
        have q4 : (x.space == 4) = false := by simpa using h4
        have q5 : (x.space == 5) = false := by simpa using h5
        go_enter Try.func80, Try.ntmps80
        go_wp2
        go_ret
        exact ⟨rfl, unhidE HB⟩

theorem ahead_len (x : AttrM) : (aheadB x).data.toList.length ≤ 6 := by
  unfold aheadB xlinkB xmlB xmlnsB
  repeat' split
  all_goals simp
theorem below_dr {a w' : World} (h : Below a.drew.heap.size a.drew w') : Below a.heap.size a w' := ⟨h.os, h.tape, h.output, h.size, h.block⟩
def attrL (x : AttrM) : List UInt8 := catL [⟨#[32]⟩, aheadB x, x.name, ⟨#[61, 34]⟩] ++ escL true x.val.data.toList ++ [34]

theorem attr_cat (x : AttrM) : (catL [⟨#[32]⟩, aheadB x, x.name, ⟨#[61, 34]⟩]).length ≤ x.name.size + 20 := by
  have h1 := ahead_len x
  have h2 := len_data x.name
  have e : catL [⟨#[32]⟩, aheadB x, x.name, ⟨#[61, 34]⟩] = [32] ++ ((aheadB x).data.toList ++ (x.name.data.toList ++ [61, 34])) := by simp [catL]
  rw [e]
  simp only [List.length_append, List.length_cons, List.length_nil]
  omega
theorem attr_put {bA : Nat} {sc : Bool} {B bw : Nat} {l : List UInt8} {w w1 : World} (x : AttrM) (h : Wr bA sc B bw l w) (hlen : l.length + 6 * x.val.size + x.name.size + 100 ≤ 140737488355328) (hB : B ≤ w.heap.size)
    (hb1 : Below (w.alloc (.cells #[.int .i64 x.space, .string x.pre, .string x.name, .string x.val] 96)).heap.size (w.alloc (.cells #[.int .i64 x.space, .string x.pre, .string x.name, .string x.val] 96)) w1) :
    Calls Try.prog 69 #[.pointer (some ⟨bw, 0, none⟩), .slice (some ⟨w1.heap.size, 0, none⟩) 4 4] (w1.alloc (.cells #[.string ⟨#[32]⟩, .string (aheadB x), .string x.name, .string ⟨#[61, 34]⟩] 9)) fun e w' => e = .returned (.tuple #[]) ∧ Wr bA sc B bw (l ++ catL [⟨#[32]⟩, aheadB x, x.name, ⟨#[61, 34]⟩]) w' ∧ Nx B bw w w' ∧ w'.heap[w.heap.size]? = some (.cells #[.int .i64 x.space, .string x.pre, .string x.name, .string x.val] 96 (0, 0)) := by
  have hltw := h.lt
  have hcat := attr_cat x
  have hn1 : Nx B bw w (w.alloc (.cells #[.int .i64 x.space, .string x.pre, .string x.name, .string x.val] 96)) := (Nx.refl B bw w).alloc hB _
  have hn2 := hn1.trans (Nx.new (B := B) (bw := bw) hb1 (Nat.le_trans hB hn1.size))
  have hw1 : Wr bA sc B bw l w1 := (h.alloc _).more hb1
  have hwl := hw1.lt
  have hbk : w1.heap[w.heap.size]? = some (.cells #[.int .i64 x.space, .string x.pre, .string x.name, .string x.val] 96 (0, 0)) := (hb1.block _ (by simp)).trans (heap_alloc_new w _)
  have hsz : w.heap.size < w1.heap.size := lt_of_block hbk
  have hp := put_any [⟨#[32]⟩, aheadB x, x.name, ⟨#[61, 34]⟩] (hw1.alloc (.cells #[.string ⟨#[32]⟩, .string (aheadB x), .string x.name, .string ⟨#[61, 34]⟩] 9)) (g := w1.heap.size) (heap_alloc_new w1 _) (by omega) (by simp) (by omega) (Nat.le_trans hB (hn2.alloc hB _).size)
  refine hp.mono ?_
  rintro e w' ⟨rfl, h1, h2⟩
  refine ⟨rfl, h1, (hn2.alloc hB _).trans h2, ?_⟩
  exact h2.block ((alloc_old w1 _ _ hsz).trans hbk) (by omega) (by decide)

end Go.Proofs.Ytfcagiacjpcpeaa
