/-
  A node as text, what is in it given.
-/
import Derived.Test.YtfcagiacjpcpeaaVh
namespace Go.Proofs.Ytfcagiacjpcpeaa
open Go.RowKit Go.Lib

def nodeM (inn : List UInt8) (n : NodeM) (pl : Bool) : List UInt8 :=
  if n.kind = 1 then elemM inn n
  else if n.kind = 2 then (if pl then n.data.data.toList else escL false n.data.data.toList)
  else if n.kind = 3 then catL [comO, n.data, comS]
  else if n.kind = 4 then catL [docO, n.name, gtB] else []
theorem cat1_len (a : ByteArray) : (catL [a]).length = a.size := by
  have e : catL [a] = a.data.toList := by simp [catL]
  rw [e, len_data]
def costM (n : NodeM) : Nat := 2 * n.name.size + attrsN n.attrs + 6 * n.data.size + 300

set_option maxHeartbeats 4000000 in
theorem node_void {W0 w : World} {bA : Nat} {sc : Bool} {bw : Nat} {t : List UInt8} (n : NodeM) (a : Option Addr) (cap : Nat) (pl : Bool) (hb : Below W0.heap.size W0 w) (hw : Wr bA sc W0.heap.size bw t w) (hk : n.kind = 1) (hv : (htmlM n.kind n.space && hasN voids n.name) = true) (ha : AtR w a n.attrs) (hl : n.attrs.length ≤ 100000) (hlen : t.length + n.name.size + attrsN n.attrs + 100 ≤ 140737488355328) :
    Calls Try.prog 58 #[.pointer (some ⟨bw, 0, none⟩), .agg #[.int .i64 n.kind, .int .i64 n.space, .string n.name, .slice a n.attrs.length cap, .string n.data, .string n.system, .int .i64 n.parent, .int .i64 n.first, .int .i64 n.last, .int .i64 n.prev, .int .i64 n.next, .int .i64 n.inner], .bool pl] w fun e w' => e = .returned (.tuple #[]) ∧ Wr bA sc W0.heap.size bw (t ++ tagL n.name n.attrs) w' ∧ Nx W0.heap.size bw w w' := by
  have hB := hb.size
  have hltw := hw.lt
  have hn0 : Nx W0.heap.size bw w (w.alloc (nodeB n a cap)) := (Nx.refl _ bw w).alloc hB _
  have hk0 : (w.alloc (nodeB n a cap)).heap[w.heap.size]? = some (nodeB n a cap) := heap_alloc_new w _
  have hw0 := hw.alloc (nodeB n a cap)
  have HE := hidE (element_void n a cap hv (hb.trans hn0.below) hw0 (ha.nx hw hn0) hl hlen)
  have HN0 := hidE hn0
  unfold nodeB at HE HN0
  clear hw ha hlen hn0 hk0 hw0 hv
  rw [hk] at HE HN0 ⊢
  go_enter Try.func58, Try.ntmps58
  go_wp2_with (go_at_call 68; refine (unhidE HE).mono ?_; rintro e w3 ⟨rfl, hw3, hn3⟩; have HW3 := hidE hw3; have HN3 := hidE ((unhidE HN0).trans hn3); clear hw3 hn3)
  go_end0
  exact ⟨rfl, unhidE HW3, unhidE HN3⟩

set_option maxHeartbeats 4000000 in
theorem node_full {W0 w : World} {bA : Nat} {sc : Bool} {bw : Nat} {t : List UInt8} (n : NodeM) (a : Option Addr) (cap : Nat) (pl : Bool) (hb : Below W0.heap.size W0 w) (hw : Wr bA sc W0.heap.size bw t w) (out : List UInt8) (cost : Nat) (hI : InsC W0 bA sc bw n out cost) (hco : out.length ≤ cost) (hk : n.kind = 1) (hv : (htmlM n.kind n.space && hasN voids n.name) = false) (ha : AtR w a n.attrs) (hl : n.attrs.length ≤ 100000) (hlen : t.length + 2 * n.name.size + attrsN n.attrs + cost + 300 ≤ 140737488355328) :
    Calls Try.prog 58 #[.pointer (some ⟨bw, 0, none⟩), .agg #[.int .i64 n.kind, .int .i64 n.space, .string n.name, .slice a n.attrs.length cap, .string n.data, .string n.system, .int .i64 n.parent, .int .i64 n.first, .int .i64 n.last, .int .i64 n.prev, .int .i64 n.next, .int .i64 n.inner], .bool pl] w fun e w' => e = .returned (.tuple #[]) ∧ Wr bA sc W0.heap.size bw (t ++ (tagL n.name n.attrs ++ (out ++ catL [endB, n.name, gtB]))) w' ∧ Nx W0.heap.size bw w w' := by
  have hB := hb.size
  have hltw := hw.lt
  have hn0 : Nx W0.heap.size bw w (w.alloc (nodeB n a cap)) := (Nx.refl _ bw w).alloc hB _
  have hk0 : (w.alloc (nodeB n a cap)).heap[w.heap.size]? = some (nodeB n a cap) := heap_alloc_new w _
  have hw0 := hw.alloc (nodeB n a cap)
  have HE := hidE (element_full n a cap out cost hI hco hv (hb.trans hn0.below) hw0 (ha.nx hw hn0) hl hlen)
  have HN0 := hidE hn0
  unfold nodeB at HE HN0
  clear hw ha hlen hn0 hk0 hw0 hv hI hco
  rw [hk] at HE HN0 ⊢
  go_enter Try.func58, Try.ntmps58
  go_wp2_with (go_at_call 68; refine (unhidE HE).mono ?_; rintro e w3 ⟨rfl, hw3, hn3⟩; have HW3 := hidE hw3; have HN3 := hidE ((unhidE HN0).trans hn3); clear hw3 hn3)
  go_end0
  exact ⟨rfl, by rw [← List.append_assoc]; exact unhidE HW3, unhidE HN3⟩

set_option maxHeartbeats 4000000 in
theorem node_plain {W0 w : World} {bA : Nat} {sc : Bool} {bw : Nat} {t : List UInt8} (n : NodeM) (a : Option Addr) (cap : Nat) (pl : Bool) (hb : Below W0.heap.size W0 w) (hw : Wr bA sc W0.heap.size bw t w) (hk : n.kind = 2) (hp : pl = true) (hlen : t.length + n.data.size + 100 ≤ 140737488355328) :
    Calls Try.prog 58 #[.pointer (some ⟨bw, 0, none⟩), .agg #[.int .i64 n.kind, .int .i64 n.space, .string n.name, .slice a n.attrs.length cap, .string n.data, .string n.system, .int .i64 n.parent, .int .i64 n.first, .int .i64 n.last, .int .i64 n.prev, .int .i64 n.next, .int .i64 n.inner], .bool pl] w fun e w' => e = .returned (.tuple #[]) ∧ Wr bA sc W0.heap.size bw (t ++ n.data.data.toList) w' ∧ Nx W0.heap.size bw w w' := by
  have hB := hb.size
  have hltw := hw.lt
  have hn0 : Nx W0.heap.size bw w (w.alloc (nodeB n a cap)) := (Nx.refl _ bw w).alloc hB _
  have hk0 : (w.alloc (nodeB n a cap)).heap[w.heap.size]? = some (nodeB n a cap) := heap_alloc_new w _
  have hw0 := hw.alloc (nodeB n a cap)
  have hn1 := hn0.alloc hB (.cells #[.string n.data] 9)
  have hlt1 : bw ≠ w.heap.size + 1 := by omega
  have HE := hidE (put_any [n.data] (hw0.alloc (.cells #[.string n.data] 9)) (g := w.heap.size + 1) (by have := heap_alloc_new (w.alloc (nodeB n a cap)) (.cells #[.string n.data] 9); simpa [sRow] using this) (by omega) (by simp) (by rw [cat1_len]; omega) (Nat.le_trans hB hn1.size))
  have HN1 := hidE hn1
  unfold nodeB at HE HN1
  clear hw hlen hn0 hk0 hw0 hn1
  rw [hk] at HE HN1 ⊢
  subst hp
  go_enter Try.func58, Try.ntmps58
  go_wp2_with (go_at_call 69; refine (unhidE HE).mono ?_; rintro e w3 ⟨rfl, hw3, hn3⟩; have HW3 := hidE hw3; have HN3 := hidE ((unhidE HN1).trans hn3); clear hw3 hn3)
  go_end0
  exact ⟨rfl, by have := unhidE HW3; simpa [catL] using this, unhidE HN3⟩

set_option maxHeartbeats 4000000 in
theorem node_text {W0 w : World} {bA : Nat} {sc : Bool} {bw : Nat} {t : List UInt8} (n : NodeM) (a : Option Addr) (cap : Nat) (pl : Bool) (hb : Below W0.heap.size W0 w) (hw : Wr bA sc W0.heap.size bw t w) (hk : n.kind = 2) (hp : pl = false) (hlen : t.length + 6 * n.data.size + 100 ≤ 140737488355328) :
    Calls Try.prog 58 #[.pointer (some ⟨bw, 0, none⟩), .agg #[.int .i64 n.kind, .int .i64 n.space, .string n.name, .slice a n.attrs.length cap, .string n.data, .string n.system, .int .i64 n.parent, .int .i64 n.first, .int .i64 n.last, .int .i64 n.prev, .int .i64 n.next, .int .i64 n.inner], .bool pl] w fun e w' => e = .returned (.tuple #[]) ∧ Wr bA sc W0.heap.size bw (t ++ escL false n.data.data.toList) w' ∧ Nx W0.heap.size bw w w' := by
  have hB := hb.size
  have hltw := hw.lt
  have hn0 : Nx W0.heap.size bw w (w.alloc (nodeB n a cap)) := (Nx.refl _ bw w).alloc hB _
  have hk0 : (w.alloc (nodeB n a cap)).heap[w.heap.size]? = some (nodeB n a cap) := heap_alloc_new w _
  have hw0 := hw.alloc (nodeB n a cap)
  have HE := hidE (fun m => escape_any (bokW bA sc) n.data false (hw0.drewN m) (by omega) (Nat.le_trans hB (hn0.drewN m).size))
  have HN0 := hidE hn0
  have HK0 := hidE hk0
  unfold nodeB at HE HN0 HK0
  clear hw hlen hn0 hk0 hw0
  rw [hk] at HE HN0 HK0 ⊢
  subst hp
  go_enter Try.func58, Try.ntmps58
  go_wp2
  go_region_held3 (fun W' => W'.cell? ⟨w.heap.size, 4, none⟩ = some (.string n.data)) (first | exact cell_row _ _ 4 _ _ _ (unhidE HK3) | exact cell_row _ _ 4 _ _ _ (unhidE HK0)) (first
    | (go_at_call 40; refine ((unhidE HE) 1).mono ?_; rintro e w3 ⟨rfl, hB3, hb3, hk3⟩; have HB3 := hidE hB3; have hn3 : Nx W0.heap.size bw _ w3 := ⟨below_dr1 hb3, hk3⟩; have HN3 := hidE ((unhidE HN0).trans hn3); have HK3 := hidE (hn3.block (unhidE HK0) (by omega) (by decide)); clear hB3 hb3 hk3 hn3))
  all_goals go_wp2
  all_goals go_end0
  all_goals exact ⟨rfl, .inr (unhidE HB3), unhidE HN3⟩

set_option maxHeartbeats 4000000 in
theorem node_comment {W0 w : World} {bA : Nat} {sc : Bool} {bw : Nat} {t : List UInt8} (n : NodeM) (a : Option Addr) (cap : Nat) (pl : Bool) (hb : Below W0.heap.size W0 w) (hw : Wr bA sc W0.heap.size bw t w) (hk : n.kind = 3) (hlen : t.length + n.data.size + 100 ≤ 140737488355328) :
    Calls Try.prog 58 #[.pointer (some ⟨bw, 0, none⟩), .agg #[.int .i64 n.kind, .int .i64 n.space, .string n.name, .slice a n.attrs.length cap, .string n.data, .string n.system, .int .i64 n.parent, .int .i64 n.first, .int .i64 n.last, .int .i64 n.prev, .int .i64 n.next, .int .i64 n.inner], .bool pl] w fun e w' => e = .returned (.tuple #[]) ∧ Wr bA sc W0.heap.size bw (t ++ catL [comO, n.data, comS]) w' ∧ Nx W0.heap.size bw w w' := by
  have hB := hb.size
  have hltw := hw.lt
  have hn0 : Nx W0.heap.size bw w (w.alloc (nodeB n a cap)) := (Nx.refl _ bw w).alloc hB _
  have hk0 : (w.alloc (nodeB n a cap)).heap[w.heap.size]? = some (nodeB n a cap) := heap_alloc_new w _
  have hw0 := hw.alloc (nodeB n a cap)
  have hn1 := hn0.alloc hB (.cells #[.string comO, .string n.data, .string comS] 9)
  have hlt1 : bw ≠ w.heap.size + 1 := by omega
  have HE := hidE (put_any [comO, n.data, comS] (hw0.alloc (.cells #[.string comO, .string n.data, .string comS] 9)) (g := w.heap.size + 1) (by have := heap_alloc_new (w.alloc (nodeB n a cap)) (.cells #[.string comO, .string n.data, .string comS] 9); simpa [sRow] using this) (by omega) (by simp) (by rw [cat3_len]; have k3 : comO.size = 4 := rfl; have k4 : comS.size = 3 := rfl; omega) (Nat.le_trans hB hn1.size))
  have HN1 := hidE hn1
  unfold nodeB at HE HN1
  clear hw hlen hn0 hk0 hw0 hn1
  rw [hk] at HE HN1 ⊢
  unfold comO comS at *
  go_enter Try.func58, Try.ntmps58
  go_wp2_with (go_at_call 69; refine (unhidE HE).mono ?_; rintro e w3 ⟨rfl, hw3, hn3⟩; have HW3 := hidE hw3; have HN3 := hidE ((unhidE HN1).trans hn3); clear hw3 hn3)
  go_end0
  exact ⟨rfl, unhidE HW3, unhidE HN3⟩

set_option maxHeartbeats 4000000 in
theorem node_doctype {W0 w : World} {bA : Nat} {sc : Bool} {bw : Nat} {t : List UInt8} (n : NodeM) (a : Option Addr) (cap : Nat) (pl : Bool) (hb : Below W0.heap.size W0 w) (hw : Wr bA sc W0.heap.size bw t w) (hk : n.kind = 4) (hlen : t.length + n.name.size + 100 ≤ 140737488355328) :
    Calls Try.prog 58 #[.pointer (some ⟨bw, 0, none⟩), .agg #[.int .i64 n.kind, .int .i64 n.space, .string n.name, .slice a n.attrs.length cap, .string n.data, .string n.system, .int .i64 n.parent, .int .i64 n.first, .int .i64 n.last, .int .i64 n.prev, .int .i64 n.next, .int .i64 n.inner], .bool pl] w fun e w' => e = .returned (.tuple #[]) ∧ Wr bA sc W0.heap.size bw (t ++ catL [docO, n.name, gtB]) w' ∧ Nx W0.heap.size bw w w' := by
  have hB := hb.size
  have hltw := hw.lt
  have hn0 : Nx W0.heap.size bw w (w.alloc (nodeB n a cap)) := (Nx.refl _ bw w).alloc hB _
  have hk0 : (w.alloc (nodeB n a cap)).heap[w.heap.size]? = some (nodeB n a cap) := heap_alloc_new w _
  have hw0 := hw.alloc (nodeB n a cap)
  have hn1 := hn0.alloc hB (.cells #[.string docO, .string n.name, .string gtB] 9)
  have hlt1 : bw ≠ w.heap.size + 1 := by omega
  have HE := hidE (put_any [docO, n.name, gtB] (hw0.alloc (.cells #[.string docO, .string n.name, .string gtB] 9)) (g := w.heap.size + 1) (by have := heap_alloc_new (w.alloc (nodeB n a cap)) (.cells #[.string docO, .string n.name, .string gtB] 9); simpa [sRow] using this) (by omega) (by simp) (by rw [cat3_len]; have k3 : docO.size = 10 := rfl; have k4 : gtB.size = 1 := rfl; omega) (Nat.le_trans hB hn1.size))
  have HN1 := hidE hn1
  unfold nodeB at HE HN1
  clear hw hlen hn0 hk0 hw0 hn1
  rw [hk] at HE HN1 ⊢
  unfold docO gtB at *
  go_enter Try.func58, Try.ntmps58
  go_wp2_with (go_at_call 69; refine (unhidE HE).mono ?_; rintro e w3 ⟨rfl, hw3, hn3⟩; have HW3 := hidE hw3; have HN3 := hidE ((unhidE HN1).trans hn3); clear hw3 hn3)
  go_end0
  exact ⟨rfl, unhidE HW3, unhidE HN3⟩

set_option maxHeartbeats 4000000 in
theorem node_other {W0 w : World} {bA : Nat} {sc : Bool} {bw : Nat} {t : List UInt8} (n : NodeM) (a : Option Addr) (cap : Nat) (pl : Bool) (hb : Below W0.heap.size W0 w) (hw : Wr bA sc W0.heap.size bw t w) (h1 : n.kind ≠ 1) (h2 : n.kind ≠ 2) (h3 : n.kind ≠ 3) (h4 : n.kind ≠ 4) :
    Calls Try.prog 58 #[.pointer (some ⟨bw, 0, none⟩), .agg #[.int .i64 n.kind, .int .i64 n.space, .string n.name, .slice a n.attrs.length cap, .string n.data, .string n.system, .int .i64 n.parent, .int .i64 n.first, .int .i64 n.last, .int .i64 n.prev, .int .i64 n.next, .int .i64 n.inner], .bool pl] w fun e w' => e = .returned (.tuple #[]) ∧ Wr bA sc W0.heap.size bw (t ++ []) w' ∧ Nx W0.heap.size bw w w' := by
  have hB := hb.size
  have hltw := hw.lt
  have hn0 : Nx W0.heap.size bw w (w.alloc (nodeB n a cap)) := (Nx.refl _ bw w).alloc hB _
  have hk0 : (w.alloc (nodeB n a cap)).heap[w.heap.size]? = some (nodeB n a cap) := heap_alloc_new w _
  have hw0 := hw.alloc (nodeB n a cap)
  have HN0 := hidE hn0
  have HW0 := hidE hw0
  have q1 : (n.kind == 1) = false := by simpa using h1
  have q2 : (n.kind == 2) = false := by simpa using h2
  have q3 : (n.kind == 3) = false := by simpa using h3
  have q4 : (n.kind == 4) = false := by simpa using h4
  unfold nodeB at HN0 HW0
  clear hw hn0 hk0 hw0
  go_enter Try.func58, Try.ntmps58
  go_wp2
  go_end0
  exact ⟨rfl, by rw [List.append_nil]; exact unhidE HW0, unhidE HN0⟩


/-- A node as text. -/
theorem node_any {W0 w : World} {bA : Nat} {sc : Bool} {bw : Nat} {t : List UInt8} (n : NodeM) (a : Option Addr) (cap : Nat) (pl : Bool) (out : List UInt8) (cost : Nat) (hI : InsC W0 bA sc bw n out cost) (hco : out.length ≤ cost) (hb : Below W0.heap.size W0 w) (hw : Wr bA sc W0.heap.size bw t w) (ha : AtR w a n.attrs) (hl : n.attrs.length ≤ 100000) (hlen : t.length + costM n + cost + 100 ≤ 140737488355328) :
    Calls Try.prog 58 #[.pointer (some ⟨bw, 0, none⟩), .agg #[.int .i64 n.kind, .int .i64 n.space, .string n.name, .slice a n.attrs.length cap, .string n.data, .string n.system, .int .i64 n.parent, .int .i64 n.first, .int .i64 n.last, .int .i64 n.prev, .int .i64 n.next, .int .i64 n.inner], .bool pl] w fun e w' => e = .returned (.tuple #[]) ∧ Wr bA sc W0.heap.size bw (t ++ nodeM out n pl) w' ∧ Nx W0.heap.size bw w w' := by
  unfold costM at hlen
  unfold nodeM elemM
  by_cases h1 : n.kind = 1
  · rw [if_pos h1]
    cases hv : (htmlM n.kind n.space && hasN voids n.name) with
    | true => simpa using node_void n a cap pl hb hw h1 hv ha hl (by omega)
    | false => simpa using node_full n a cap pl hb hw out cost hI hco h1 hv ha hl (by omega)
  · rw [if_neg h1]
    by_cases h2 : n.kind = 2
    · rw [if_pos h2]
      cases hp : pl with
      | true => exact node_plain n a cap true hb hw h2 rfl (by omega)
      | false => exact node_text n a cap false hb hw h2 rfl (by omega)
    · rw [if_neg h2]
      by_cases h3 : n.kind = 3
      · rw [if_pos h3]; exact node_comment n a cap pl hb hw h3 (by omega)
      · rw [if_neg h3]
        by_cases h4 : n.kind = 4
        · rw [if_pos h4]; exact node_doctype n a cap pl hb hw h4 (by omega)
        · rw [if_neg h4]; exact node_other n a cap pl hb hw h1 h2 h3 h4
end Go.Proofs.Ytfcagiacjpcpeaa
