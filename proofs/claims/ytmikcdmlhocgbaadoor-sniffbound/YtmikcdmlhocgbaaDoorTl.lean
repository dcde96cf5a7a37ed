/-
  The walk of SniffBound, whole.
-/
import Derived.Test.YtmikcdmlhocgbaaDoorTk
namespace Go.Proofs.YtmikcdmlhocgbaaDoor
open Go.RowKit Go.Lib

theorem BytesIn.take {w : World} {a : Option Addr} {l : List UInt8} (h : BytesIn w a l) (n : Nat) : BytesIn w a (l.take n) := ⟨fun i x hi => h.cells i x (by
  rw [List.getElem?_take] at hi
  split at hi
  · exact hi
  · cases hi)⟩
theorem sniffBound_walk (a : Option Addr) (cap : Nat) (l : List UInt8) (w : World) (hb : BytesIn w a l) (hc : l.length ≤ cap) (a2 : Option Addr) (cap2 : Nat) (more : List UInt8) (hb2 : BytesIn w a2 more) (hm2 : more.length ≤ 140737488351232) (s : ByteArray) (hs : s.size ≤ 9223372036854775807) :
    Calls Tryd.prog 7 #[.slice a l.length cap, .slice a2 more.length cap2, .string s] w fun e w' => e = .returned (.bool true) ∧ Below w.heap.size w w' := by
  by_cases hle : l.length ≤ 1024
  · exact bound_no a cap l hle w hb a2 cap2 more hb2 hm2 s hs
  · obtain ⟨b, off, rfl, _⟩ := hb.cells 0 l[0] (List.getElem?_eq_getElem (by omega))
    exact bound_yes b off cap (l.take 1024) l.length (by omega) (by rw [List.length_take]; omega) (by omega) w (hb.take 1024) a2 cap2 more hb2 hm2 s hs
end Go.Proofs.YtmikcdmlhocgbaaDoor
