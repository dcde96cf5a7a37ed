import Derived.Test.YtkakncngkmoegaaGreatTZbd
import Derived.Test.YtkakncngkmoegaaGreatXGs
/-
  Plain: the adoption agency, step by step; what stays as it was meant to be.
-/
namespace Go.Proofs.YtkakncngkmoegaaGreat
open Go.RowKit

structure St where
  os : List OneM
  L : List Int
  es : List EntM
  mark : Int

def tokE (es : List EntM) (id : Int) : TokM := (es.getD (placeE es id).toNat mark0).tok

def dropP (s : St) (id : Int) : St := ⟨s.os, s.L, delE s.es (placeE s.es id), if placeE s.es id < s.mark then s.mark - 1 else s.mark⟩
def leaveP (s : St) (id : Int) : St := ⟨s.os, removeL s.L id, s.es, s.mark⟩
def standP (s : St) (i id : Int) : St := ⟨s.os, putL (keysO s.os) s.L i id, s.es, s.mark⟩
def enterP (s : St) (id : Int) (t : TokM) : St := ⟨s.os, s.L, putEAc (keysO s.os) s.es s.mark id t, s.mark⟩
def swapP (s : St) (old id : Int) : St := ⟨s.os, swapL (keysO s.os) s.L old id, swapEAc (keysO s.os) s.es old id, s.mark⟩
def putP (s : St) (p q id : Int) : St := ⟨spotR s.os p q id, s.L, s.es, s.mark⟩
def newR (s : St) (n : Int) : List OneM × Int × Int := elemO s.os 0 (tokE s.es n).name (tokE s.es n).attrs
def newP (s : St) (n : Int) : St := ⟨(newR s n).1, s.L, s.es, s.mark⟩
def newI (s : St) (n : Int) : Int := (newR s n).2.1
def markP (s : St) (m : Int) : St := ⟨s.os, s.L, s.es, m⟩

/-- One of the elements between both: with its entry made anew. -/
def againP (b : Int) (s : St) (n last : Int) : St :=
  putP (if last = b then markP (swapP (newP s n) n (newI s n)) (placeE (swapP (newP s n) n (newI s n)).es (newI s n) + 1) else swapP (newP s n) n (newI s n)) (newI s n) (-1) last
def goP (s : St) (n : Int) : St := leaveP (if 0 ≤ placeE s.es n then dropP s n else s) n
/-- From B down to F. -/
def renewP (f b : Int) : Nat → Nat → St → Int → St × Int
  | 0, _, s, last => (s, last)
  | i + 1, c, s, last =>
    if atM s.L (i : Int) = f then (s, last)
    else if 0 ≤ placeE s.es (atM s.L (i : Int)) ∧ c ≤ 3 then renewP f b i (c + 1) (againP b s (atM s.L (i : Int)) last) (newI s (atM s.L (i : Int)))
    else renewP f b i (c + 1) (goP s (atM s.L (i : Int))) last

def kidsP (m : Int) (s : St) (l : List Nat) : St := l.foldl (fun s (k : Nat) => putP s m (-1) (k : Int)) s
/-- What is in B comes into M. -/
def fillP (s : St) (f b : Int) : St := putP (kidsP (newI s f) (newP s f) (kidsO (newR s f).1 b)) b (-1) (newI s f)
def replaceP (s : St) (f b : Int) : St :=
  standP (leaveP (enterP (dropP (fillP s f b) f) (newI s f) (tokE (fillP s f b).es f)) f) (findM (leaveP (enterP (dropP (fillP s f b) f) (newI s f) (tokE (fillP s f b).es f)) f).L b + 1) (newI s f)
def belowP (L : List Int) (f : Int) : Int := if 0 < findM L f then atM L (findM L f - 1) else 0
def spotF (os : List OneM) (L : List Int) (c : Int) (foster : Bool) : Int × Int := if foster then spotP os L c.toNat else outP os (c, -1)
def renewF (s : St) (f b : Int) : St × Int := renewP f b (findM s.L b).toNat 1 (markP s (placeE s.es f)) b
def moveP (s : St) (c last : Int) (foster : Bool) : St := putP s (spotF s.os s.L c foster).1 (spotF s.os s.L c foster).2 last
def adoptP (s : St) (f b : Int) (foster : Bool) : St := replaceP (moveP (renewF s f b).1 (belowP s.L f) (renewF s f b).2 foster) f b

/-- The special element above F that is nearest to it. -/
def specP (ks : List Key) (L : List Int) : Nat → Nat → Int
  | 0, _ => -1
  | n + 1, i => if specM ks (atM L (i : Int)) = true then atM L (i : Int) else specP ks L n (i + 1)
def blockP (ks : List Key) (L : List Int) (f : Int) : Int := specP ks L (L.length - ((findM L f).toNat + 1)) ((findM L f).toNat + 1)

/-- What came of a round: it goes on, or is done. -/
structure Out where
  s : St
  more : Bool
  another : Bool
  errs : Int
def roundP (name : ByteArray) (foster : Bool) (s : St) (errs : Int) : Out :=
  if lastE name s.es s.es.length = -1 then ⟨s, false, true, errs⟩
  else if findM s.L (lastE name s.es s.es.length) < 0 then ⟨dropP s (lastE name s.es s.es.length), false, false, errs + 1⟩
  else if nodeScopeM (keysO s.os) s.L (lastE name s.es s.es.length) 0 = false then ⟨s, false, false, errs + 1⟩
  else if blockP (keysO s.os) s.L (lastE name s.es s.es.length) = -1 then
    ⟨dropP ⟨s.os, s.L.take (findM s.L (lastE name s.es s.es.length)).toNat, s.es, s.mark⟩ (lastE name s.es s.es.length), false, false, if lastE name s.es s.es.length = topM s.L then errs else errs + 1⟩
  else ⟨adoptP s (lastE name s.es s.es.length) (blockP (keysO s.os) s.L (lastE name s.es s.es.length)) foster, true, false, if lastE name s.es s.es.length = topM s.L then errs else errs + 1⟩
def roundsP (name : ByteArray) (foster : Bool) : Nat → St → Int → St × Bool × Int
  | 0, s, errs => (s, false, errs)
  | n + 1, s, errs => if (roundP name foster s errs).more = true then roundsP name foster n (roundP name foster s errs).s (roundP name foster s errs).errs
    else ((roundP name foster s errs).s, (roundP name foster s errs).another, (roundP name foster s errs).errs)
end Go.Proofs.YtkakncngkmoegaaGreat
