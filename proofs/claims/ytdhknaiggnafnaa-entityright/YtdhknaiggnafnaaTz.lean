/-
  The document's numbers that mean others.
-/
import Derived.Test.YtdhknaiggnafnaaTy
import Derived.Test.YtdhknaiggnafnaaTj
namespace Go.Proofs.Ytdhknaiggnafnaa
open Go.RowKit Go.Lib

def othF : List Int := oth.map (·.1)
def othT : List Int := oth.map (·.2)
theorem oth_len : oth.length = 27 := by decide +kernel
def i64s (l : List Int) : Array Value := (l.map (Value.int .i64)).toArray
theorem wp_world {P : Program} {c : Code} {Q : Exit → Act → World → Prop} {a : Act} {W : World} (W' : World) (h : W = W') (hw : c.wp P Q a W') : c.wp P Q a W := h ▸ hw
theorem i64s_at (l : List Int) (i : Nat) (x : Int) (h : l[i]? = some x) : (i64s l)[i]? = some (.int .i64 x) := by simp [i64s, h]

set_option maxHeartbeats 1000000 in
theorem means_at (n : Int) (w : World) : Calls Try.prog 31 #[.int .i64 n] w fun e w' => e = .returned (.int .i64 ((othM n).getD n)) ∧ Below w.heap.size w w' := by
  have HL := hide oth_len
  go_enter Try.func31, Try.ntmps31
  go_wp2
  have HF : Hid (∀ i x, oth[i]? = some x → ((w.alloc (.cells (i64s othF) 3)).alloc (.cells (i64s othT) 3)).cell? ⟨w.heap.size, i, none⟩ = some (.int .i64 x.1)) := hide (fun i x h => by
    refine cell_of (t := 3) (fr := (0, 0)) (cs := i64s othF) ?_ (i64s_at _ i x.1 (by simp [othF, h]))
    rw [heap_alloc_old _ _ (by simp)]
    exact new_block _ _)
  have HT : Hid (∀ i x, oth[i]? = some x → ((w.alloc (.cells (i64s othF) 3)).alloc (.cells (i64s othT) 3)).cell? ⟨w.heap.size + 1, i, none⟩ = some (.int .i64 x.2)) := hide (fun i x h => by
    refine cell_of (t := 3) (fr := (0, 0)) (cs := i64s othT) ?_ (i64s_at _ i x.2 (by simp [othT, h]))
    exact heap_alloc2_new _ _ _)
  have HB : Hid (Below w.heap.size w ((w.alloc (.cells (i64s othF) 3)).alloc (.cells (i64s othT) 3))) := hide (((Below.refl _ _).alloc (Nat.le_refl _) _).alloc (by simp) _)
  obtain ⟨wl, hwl⟩ : ∃ wl, (w.alloc (.cells (i64s othF) 3)).alloc (.cells (i64s othT) 3) = wl := ⟨_, rfl⟩
  rw [hwl] at HF HT HB
  refine wp_world ((w.alloc (.cells (i64s othF) 3)).alloc (.cells (i64s othT) 3)) (by kernel_rfl) ?_
  rw [hwl]
  clear hwl
  generalize w.heap.size + 1 = nb at HT ⊢
  go_loopg [5] 27 (fun k s5 wx => ∃ i : Nat, s5 = .int .i64 i ∧ i + k = 27 ∧ oth.find? (fun x => x.1 == n) = (oth.drop i).find? (fun x => x.1 == n) ∧ wx = wl)
  case atStart => exact ⟨0, rfl, by omega, by rw [List.drop_zero], rfl⟩
  case round =>
    obtain ⟨i, rfl, hik, hf, rfl⟩ := hrel
    have HFI := hide hf
    clear hf
    by_cases hi : i < 27
    · have hiz : (i : Int) < 27 := by omega
      obtain ⟨x, hx⟩ : ∃ x, oth[i]? = some x := ⟨_, List.getElem?_eq_getElem (by rw [unhide HL]; exact hi)⟩
      have HD := hide (drop_cons oth i x hx)
      have c0 := (unhide HF) i x hx
      have c1 := (unhide HT) i x hx
      obtain ⟨k, v⟩ := x
      simp only [] at c0 c1
      clear hx
      cases hq : k == n with
      | true =>
        have HQ := hide hq
        go_wp2
        go_ret
        have e : othM n = some v := by unfold othM; rw [unhide HFI, unhide HD, find_hit (fun x : Int × Int => x.1 == n) (k, v) _ (unhide HQ)]; rfl
        rw [e]
        exact ⟨rfl, unhide HB⟩
      | false =>
        have HQ := hide hq
        go_wp2
        go_roundg (gk - 1)
        case measure => omega
        case rel =>
          refine ⟨i + 1, by go_num, by omega, ?_, rfl⟩
          rw [unhide HFI, unhide HD]; exact find_miss (fun x : Int × Int => x.1 == n) (k, v) _ (unhide HQ)
    · obtain rfl : i = 27 := by omega
      have HN : Hid (othM n = none) := hide (by unfold othM; rw [unhide HFI, ← unhide HL, List.drop_length]; rfl)
      clear HFI
      go_wp2
      go_ret
      rw [unhide HN]
      exact ⟨rfl, unhide HB⟩
end Go.Proofs.Ytdhknaiggnafnaa
