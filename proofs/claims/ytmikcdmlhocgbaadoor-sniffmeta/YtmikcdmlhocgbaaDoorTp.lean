/-
  The walk of SniffMeta, whole.
-/
import Derived.Test.YtmikcdmlhocgbaaDoorTn
namespace Go.Proofs.YtmikcdmlhocgbaaDoor
open Go.RowKit Go.Lib

theorem byte_of {x : Int} (h : (Lit.int .u8 x).wf = true) : ∃ a : UInt8, x = (a.toNat : Int) := by
  have e1 : IntKind.u8.min = 0 := rfl
  have e2 : IntKind.u8.max = 255 := by decide
  simp only [Lit.wf, e1, e2, Bool.and_eq_true, decide_eq_true_eq] at h
  refine ⟨UInt8.ofNat x.toNat, ?_⟩
  rw [UInt8.toNat_ofNat']
  omega
theorem sniffMeta_walk (a : Option Addr) (cap : Nat) (l : List UInt8) (w : World) (hb : BytesIn w a l) (hm : l.length ≤ 140737488351232) (e q : UInt8) :
    Calls Tryd.prog 9 #[.slice a l.length cap, .int .u8 (e.toNat : Int), .int .u8 (q.toNat : Int)] w fun e w' => e = .returned (.bool true) ∧ Below w.heap.size w w' := by
  have hr : q.toNat % 3 < 3 := Nat.mod_lt _ (by decide)
  have hq : Int.tmod (q.toNat : Int) 3 = ((q.toNat % 3 : Nat) : Int) := rfl
  have hn : e.toNat % 7 < 7 := Nat.mod_lt _ (by decide)
  have he : Int.tmod (e.toNat : Int) 7 = ((e.toNat % 7 : Nat) : Int) := rfl
  have hQ : (⟨(quL (q.toNat % 3)).toArray⟩ : ByteArray).data.toList = quL (q.toNat % 3) := by simp
  rcases (by omega : e.toNat % 7 = 0 ∨ e.toNat % 7 = 1 ∨ e.toNat % 7 = 2 ∨ e.toNat % 7 = 3 ∨ e.toNat % 7 = 4 ∨ e.toNat % 7 = 5 ∨ e.toNat % 7 = 6) with h | h | h | h | h | h | h <;> rw [h] at he
  · exact meta_walk0 a cap l w hb hm e q _ hr _ hQ hq he
  · exact meta_walk1 a cap l w hb hm e q _ hr _ hQ hq he
  · exact meta_walk2 a cap l w hb hm e q _ hr _ hQ hq he
  · exact meta_walk3 a cap l w hb hm e q _ hr _ hQ hq he
  · exact meta_walk4 a cap l w hb hm e q _ hr _ hQ hq he
  · exact meta_walk5 a cap l w hb hm e q _ hr _ hQ hq he
  · exact meta_walk6 a cap l w hb hm e q _ hr _ hQ hq he
end Go.Proofs.YtmikcdmlhocgbaaDoor
