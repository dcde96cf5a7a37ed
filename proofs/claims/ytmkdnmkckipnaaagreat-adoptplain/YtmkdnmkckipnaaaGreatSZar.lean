/-
   
-/
import Derived.Test.YtmkdnmkckipnaaaGreatSZaq
import Derived.Deep.RegionWith
namespace Go.Proofs.YtmkdnmkckipnaaaGreat
open Go.RowKit

def wObs (base bA bR bK bW : Nat) (s : List OneM × List Int) : List (Ob base) := [aO base bA s.1, rO base bR s.1, stOb base bK bA s.2, rsO base bW bR s.2]

theorem results_4 {fn : Func} {t u v x : Tmp} (h : fn.results = #[.tmp t, .tmp u, .tmp v, .tmp x]) (tmps : Array Value) (P : Program) (w : World) :
    (results fn tmps).run P w = .ok (.tuple #[tmps.getD t undef, tmps.getD u undef, tmps.getD v undef, tmps.getD x undef]) w := by
  simp [results, h]

end Go.Proofs.YtmkdnmkckipnaaaGreat

namespace Go.Proofs.YtmkdnmkckipnaaaGreat
open Go.RowKit

theorem path_from {f : Nat → Option Int} : ∀ {path : List Nat} {k : Int}, PathOf f k path → ∀ x ∈ path, (x : Int) = k ∨ ∃ y : Nat, f y = some (x : Int)
  | [], _, _, x, hx => by cases hx
  | y :: rest, k, h, x, hx => by
    obtain ⟨h1, k', h2, h3⟩ := h
    rcases List.mem_cons.1 hx with rfl | hx
    · exact .inl h1.symm
    · rcases path_from h3 x hx with e | e
      · exact .inr ⟨y, by rw [h2, e]⟩
      · exact .inr e

def cmt (s : ByteArray) : OneM := dataQ 3 s
theorem comment_new {os : List OneM} (hf : os.length ≤ 1000) (s : ByteArray) (hs : longS s = false) : dataO os 3 s = (os ++ [cmt s], (os.length : Int), 0) := by
  unfold dataO addO
  rw [hs, if_neg (by decide), if_pos (by omega)]
  rfl
theorem link_new {ns : List NodeM} {os : List OneM} {s : ByteArray} (hs : Sim ns (os ++ [cmt s])) {q : Nat} {oq : OneM} (hq : os[q]? = some oq) (hk : oq.kind = 0 ∨ oq.kind = 1 ∨ oq.kind = 5) :
    unlinkR (os ++ [cmt s]) (os.length : Int) = os ++ [cmt s] ∧ linkE (os ++ [cmt s]) (q : Int) (os.length : Int) (-1) = 0 := by
  have hql := (List.getElem?_eq_some_iff.1 hq).1
  have hq' : (os ++ [cmt s])[q]? = some oq := by rw [List.getElem?_append_left hql]; exact hq
  have hc : (os ++ [cmt s])[os.length]? = some (cmt s) := by simp
  have hup : upIO (os ++ [cmt s]) (os.length : Int) = -1 := by rw [upIO_of hc]; rfl
  have hue : unlinkE (os ++ [cmt s]) (os.length : Int) = 5 := by
    unfold unlinkE
    rw [hasO_of hc, hup]
    rfl
  refine ⟨by unfold unlinkR; rw [hue]; rfl, ?_⟩
  have hab : aboveO (os ++ [cmt s]) (q : Int) (os.length : Int) = false := by
    obtain ⟨path, hp⟩ := hs.ends q (by simp; omega)
    rw [aboveO_of hq' (hasO_of hc) hp]
    unfold inPath
    rw [List.any_eq_false]
    intro x hx he
    have hxe : (x : Int) = (os.length : Int) := by simpa using he
    rcases path_from hp x hx with e | ⟨y, hy⟩
    · omega
    · unfold upO at hy
      cases hoy : (os ++ [cmt s])[y]? with
      | none => rw [hoy] at hy; cases hy
      | some o =>
        rw [hoy, Option.map_some] at hy
        have hxn : x = os.length := by omega
        subst hxn
        by_cases hu : o.up = -1
        · rw [if_pos hu] at hy
          have hh : o.host = (os.length : Int) := by simpa using hy
          rcases hs.host y o hoy with e | ⟨_, h0, m, e1, e2, e3, e4⟩
          · omega
          · have : h0 = os.length := by omega
            subst this
            rw [hc] at e3
            cases e3
            have : (cmt s).inner = -1 := rfl
            omega
        · rw [if_neg hu] at hy
          have hh : o.up = (os.length : Int) := by simpa using hy
          rcases hs.up y o hoy with e | ⟨p, m, e1, e2, e3⟩
          · omega
          · have : p = os.length := by omega
            subst this
            rw [hc] at e2
            cases e2
            simp [cmt, dataQ, oneM] at e3
  unfold linkE
  rw [hasO_of hq', hasO_of hc, kindO_of hq', kindO_of hc, hup, hab]
  have hp : parentM oq.kind = true := by
    unfold parentM
    rcases hk with e | e | e <;> rw [e] <;> decide
  rw [hp]
  simp [cmt, dataQ, oneM]
theorem last_new {os : List OneM} {s : ByteArray} {q : Nat} {oq : OneM} (hq : os[q]? = some oq) (hE : linkE (os ++ [cmt s]) (q : Int) (os.length : Int) (-1) = 0) :
    ∃ o', (linkR (os ++ [cmt s]) (q : Int) (os.length : Int) (-1))[q]? = some o' ∧ lastK o'.kids = (os.length : Int) := by
  have hql := (List.getElem?_eq_some_iff.1 hq).1
  have hq' : (os ++ [cmt s])[q]? = some oq := by rw [List.getElem?_append_left hql]; exact hq
  unfold linkR
  rw [if_pos hE, linkO_get]
  simp only [Int.toNat_natCast]
  rw [hq']
  refine ⟨_, rfl, ?_⟩
  simp [insO, lastK]
end Go.Proofs.YtmkdnmkckipnaaaGreat
