/-
  A meta tag behind anything: what it tells, by its bytes.
-/
import Derived.Test.YtmikcdmlhocgbaaDoorTm
namespace Go.Proofs.YtmikcdmlhocgbaaDoor
open Go.RowKit Go.Lib

def nmL : Nat → List UInt8
  | 0 => [117, 116, 102, 45, 56]
  | 1 => [117, 116, 102, 45, 49, 54, 108, 101]
  | 2 => [117, 116, 102, 45, 49, 54, 98, 101]
  | 3 => [119, 105, 110, 100, 111, 119, 115, 45, 49, 50, 53, 50]
  | 4 => [105, 115, 111, 45, 56, 56, 53, 57, 45, 49, 53]
  | 5 => [105, 115, 111, 45, 56, 56, 53, 57, 45, 53]
  | _ => [120, 45, 117, 115, 101, 114, 45, 100, 101, 102, 105, 110, 101, 100]
def quL : Nat → List UInt8
  | 0 => []
  | 1 => [34]
  | _ => [39]
def aheadL : List UInt8 := [60, 109, 101, 116, 97, 32, 99, 104, 97, 114, 115, 101, 116, 61]
def endL : List UInt8 := [32, 62]
def sufL (n r : Nat) : List UInt8 := (aheadL ++ (quL r ++ nmL n ++ quL r)) ++ endL
def wantI : Nat → Int
  | 1 => 0
  | 2 => 0
  | 6 => 3
  | n => n
theorem suf_all : ∀ n, n < 7 → ∀ r, r < 3 → (isMeta (sufL n r) 0 = true ∧ seesM (sufL n r) 0 comL = false) ∧ ((sufL n r).length ≤ 500 ∧ 0 < (sufL n r).length) ∧ (stepM (sufL n r) 0).1 = (wantI n, true) := by decide +kernel
theorem meta_tells (F : List UInt8) (hF : ∀ c ∈ F, c ≠ 60) (hl : F.length ≤ 500) (n r : Nat) (hn : n < 7) (hr : r < 3) : prescanM (F ++ sufL n r) = (wantI n, 0) := by
  obtain ⟨⟨h1, h2⟩, ⟨h3, h4⟩, h5⟩ := suf_all n hn r hr
  exact prescan_meta hF hl h3 h4 h1 h2 h5
end Go.Proofs.YtmikcdmlhocgbaaDoor
