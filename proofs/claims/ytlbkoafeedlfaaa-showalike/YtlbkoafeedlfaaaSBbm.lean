/-
  The stable sort of shown attributes, whole: what it makes of a list is a plain function of that list. Attributes as package show tells them: their words, and the sorted list. Package show's shownAttrs: a list of attributes as it is shown, in its order.
-/
import Derived.Test.YtlbkoafeedlfaaaSBbl
import Derived.Deep.RegionHeld3
import Derived.OwnWalk
import Derived.Laws.MakeOwn
import Derived.Lib.SmallJoins
namespace Go.Proofs.Ytlbkoafeedlfaaa
open Go.RowKit Go.Sort

def blkF (n : Nat) : Nat → List ShA → Nat → List ShA
  | 0, xs, a => insI a xs (n - (a + 1))
  | f + 1, xs, a => if a + 20 ≤ n then blkF n f (insI a xs (a + 20 - (a + 1))) (a + 20) else insI a xs (n - (a + 1))
theorem blkF_done (n f : Nat) (xs : List ShA) (a : Nat) (h : ¬ a + 20 ≤ n) : blkF n f xs a = insI a xs (n - (a + 1)) := by
  cases f with
  | zero => rfl
  | succ f => rw [blkF, if_neg h]
def passF (n bs : Nat) : Nat → List ShA → Nat → List ShA
  | 0, xs, a => if a + bs < n then symF (n - a) xs a (a + bs) n else xs
  | f + 1, xs, a => if a + 2 * bs ≤ n then passF n bs f (symF (a + 2 * bs - a) xs a (a + bs) (a + 2 * bs)) (a + 2 * bs) else if a + bs < n then symF (n - a) xs a (a + bs) n else xs
theorem passF_done (n bs f : Nat) (xs : List ShA) (a : Nat) (h : ¬ a + 2 * bs ≤ n) : passF n bs f xs a = if a + bs < n then symF (n - a) xs a (a + bs) n else xs := by
  cases f with
  | zero => rfl
  | succ f => rw [passF, if_neg h]
theorem passF_len (n bs : Nat) : ∀ (f : Nat) (xs : List ShA) (a : Nat), (passF n bs f xs a).length = xs.length
  | 0, xs, a => by rw [passF]; split; · rw [symF_len]
                   · rfl
  | f + 1, xs, a => by
    rw [passF]
    split
    · rw [passF_len, symF_len]
    · split
      · rw [symF_len]
      · rfl
def mrgF (n : Nat) : Nat → List ShA → Nat → List ShA
  | 0, xs, _ => xs
  | f + 1, xs, bs => if bs < n then mrgF n f (passF n bs n xs 0) (2 * bs) else xs
theorem mrgF_done (n f : Nat) (xs : List ShA) (bs : Nat) (h : ¬ bs < n) : mrgF n f xs bs = xs := by
  cases f with
  | zero => rfl
  | succ f => rw [mrgF, if_neg h]
theorem blkF_len (n : Nat) : ∀ (f : Nat) (xs : List ShA) (a : Nat), (blkF n f xs a).length = xs.length
  | 0, xs, a => insI_len _ _ _
  | f + 1, xs, a => by
    rw [blkF]
    split
    · rw [blkF_len, insI_len]
    · rw [insI_len]
theorem mrgF_len (n : Nat) : ∀ (f : Nat) (xs : List ShA) (bs : Nat), (mrgF n f xs bs).length = xs.length
  | 0, _, _ => rfl
  | f + 1, xs, bs => by
    rw [mrgF]
    split
    · rw [mrgF_len, passF_len]
    · rfl
/-- What the sort makes of a list. -/
def sortS (xs : List ShA) : List ShA := mrgF xs.length xs.length (blkF xs.length xs.length xs 0) 20
theorem sortS_len (xs : List ShA) : (sortS xs).length = xs.length := by rw [sortS, mrgF_len, blkF_len]

set_option maxHeartbeats 4000000 in
theorem stable_any {w : World} {base g cap : Nat} {xs : List ShA} (h : ShAt w base g cap xs) (hl : xs.length ≤ 1024) :
    Calls Try.prog 156 #[.slice (some ⟨g, 0, none⟩) xs.length cap, .int .i64 (xs.length : Int), cmpF] w fun e w' => e = .returned (.tuple #[]) ∧ ShAt w' base g cap (sortS xs) ∧ Mod (fun k => k = g) w w' := by
  obtain ⟨n, hn⟩ : ∃ n, xs.length = n := ⟨_, rfl⟩
  have HS := hide h
  obtain ⟨BF, hBF⟩ : ∃ BF, blkF n n xs 0 = BF := ⟨_, rfl⟩
  obtain ⟨MF, hMF⟩ : ∃ MF, mrgF n n BF 20 = MF := ⟨_, rfl⟩
  have HOUT : Hid (sortS xs = MF) := hide (by rw [sortS, hn, hBF, hMF])
  have HBF := hide hBF
  have HMF := hide hMF
  have HBL : Hid (BF.length = n) := hide (by rw [← hBF, blkF_len, hn])
  have HNL := hide hn
  rw [hn] at hl ⊢
  have hnz : (n : Int) ≤ 1024 := by omega
  have HINS : Hid (∀ (ys : List ShA) (W : World) (a b : Nat), ys.length = n → ShAt W base g cap ys → a ≤ b → b ≤ n → Calls Try.prog 162 #[.slice (some ⟨g, 0, none⟩) n cap, .int .i64 a, .int .i64 b, cmpF] W fun e w' => e = .returned (.tuple #[]) ∧ ShAt w' base g cap (insI a ys (b - (a + 1))) ∧ Mod (fun k => k = g) W w') := hide (fun ys W a b hy hS h1 h2 => by
    rw [← hy]; exact ins_any hS a b h1 (by omega) (by omega))
  have HSYM : Hid (∀ (ys : List ShA) (W : World) (a m b : Nat), ys.length = n → ShAt W base g cap ys → a < m → m < b → b ≤ n → Calls Try.prog 163 #[.slice (some ⟨g, 0, none⟩) n cap, .int .i64 a, .int .i64 m, .int .i64 b, cmpF] W fun e w' => e = .returned (.tuple #[]) ∧ ShAt w' base g cap (symF (b - a) ys a m b) ∧ Mod (fun k => k = g) W w') := hide (fun ys W a m b hy hS h1 h2 h3 => by
    rw [← hy]; exact sym_any (b - a) hS a m b h1 h2 (by omega) (by omega) (Nat.le_refl _))
  unfold cmpF at *
  clear h hn hBF hMF
  go_enter Try.func156, Try.ntmps156
  go_wp2_with fail
  go_loopg [7, 8] n (fun gk s7 s8 wx => ∃ (a b : Nat) (ys : List ShA), s7 = .int .i64 a ∧ s8 = .int .i64 b ∧ b = a + 20 ∧ a ≤ n ∧ n - a ≤ gk ∧ ys.length = n ∧ Hid (blkF n gk ys a = BF) ∧ ShAt wx base g cap ys ∧ Mod (fun k => k = g) w wx)
  case atStart => exact ⟨0, 20, xs, rfl, rfl, rfl, by omega, by omega, unhide HNL, HBF, unhide HS, Mod.refl _ _⟩
  case round =>
    clear HS HBF
    obtain ⟨a, b, ys, rfl, rfl, hb, han, hgk, hyl, HR, hS, hM⟩ := hrel
    have hbz : (b : Int) ≤ 1044 := by omega
    have HM := hide hM
    by_cases hbn : b ≤ n
    · have hbnz : (b : Int) ≤ (n : Int) := by omega
      obtain ⟨f, rfl⟩ : ∃ f, gk = f + 1 := ⟨gk - 1, by omega⟩
      have HC := hide (unhide HINS ys wr a b hyl hS (by omega) hbn)
      have HE : Hid (blkF n f (insI a ys (b - (a + 1))) b = BF) := hide (by rw [← unhide HR, blkF, if_pos (by omega), hb])
      have HYL := hide hyl
      clear hS hM
      have HB := hide hb
      clear hb
      go_wp2_with (go_at_call 162; refine (unhide HC).mono ?_; rintro e w1 ⟨rfl, hs1, hm1⟩; have HS1 := hide hs1; have HM1 := hide hm1; clear hs1 hm1)
      have hb := unhide HB
      go_roundg f
      case measure => omega
      case rel => exact ⟨b, b + 20, _, rfl, by simp, rfl, hbn, by omega, by rw [insI_len]; exact unhide HYL, HE, unhide HS1, (unhide HM).trans (unhide HM1)⟩
    · have hbnz : ¬ (b : Int) ≤ (n : Int) := by omega
      have HC := hide (unhide HINS ys wr a n hyl hS han (Nat.le_refl _))
      have HE : Hid (insI a ys (n - (a + 1)) = BF) := hide (by rw [← unhide HR, blkF_done _ _ _ _ (by omega)])
      clear hS hM
      have HB := hide hb
      clear hb
      go_wp2_with (go_at_call 162; refine (unhide HC).mono ?_; rintro e w1 ⟨rfl, hs1, hm1⟩; have HS1 : Hid (ShAt w1 base g cap BF) := hide (by rw [← unhide HE]; exact hs1); have HM1 := hide ((unhide HM).trans hm1); clear hs1 hm1)
      go_loopg [6] n (fun gk s6 wx => ∃ (bs : Nat) (ys : List ShA), s6 = .int .i64 bs ∧ 0 < bs ∧ bs ≤ 4096 ∧ n - bs ≤ gk ∧ ys.length = n ∧ Hid (mrgF n gk ys bs = MF) ∧ ShAt wx base g cap ys ∧ Mod (fun k => k = g) w wx)
      case atStart => exact ⟨20, BF, rfl, by omega, by omega, by omega, unhide HBL, HMF, unhide HS1, unhide HM1⟩
      case round =>
        clear HS1 HM1 HC HE HR HM hbn hbnz hbz HB han hgk hyl
        obtain ⟨bs, zs, rfl, hb0, hbm, hgk, hzl, HR, hS, hM⟩ := hrel
        have bz : (bs : Int) ≤ 4096 := by omega
        have bz0 : (0 : Int) < (bs : Int) := by omega
        by_cases hlt : bs < n
        · have hltz : (bs : Int) < (n : Int) := by omega
          obtain ⟨f, hf⟩ : ∃ f, gk = f + 1 := ⟨gk - 1, by omega⟩
          obtain ⟨PF, hPF⟩ : ∃ PF, passF n bs n zs 0 = PF := ⟨_, rfl⟩
          have HPF := hide hPF
          have HE : Hid (mrgF n f PF (2 * bs) = MF) := hide (by rw [← unhide HR, hf, mrgF, if_pos hlt, hPF])
          have HPL : Hid (PF.length = n) := hide (by rw [← hPF, passF_len, hzl])
          have HGF : Hid (gk = f + 1 ∧ n - bs ≤ gk) := hide ⟨hf, hgk⟩
          have HSZ := hide hS
          have HMZ := hide hM
          have HZL := hide hzl
          clear hS hM hPF hf hgk hzl
          go_wp2_with fail
          go_loopg [7, 8] n (fun gi s7 s8 wx => ∃ (a b : Nat) (ys : List ShA), s7 = .int .i64 a ∧ s8 = .int .i64 b ∧ b = a + 2 * bs ∧ a ≤ n ∧ n - a ≤ gi ∧ ys.length = n ∧ Hid (passF n bs gi ys a = PF) ∧ ShAt wx base g cap ys ∧ Mod (fun k => k = g) w wx)
          case atStart => exact ⟨0, 2 * bs, zs, rfl, by first | (congr 1; omega) | (simp), by omega, by omega, by omega, unhide HZL, HPF, unhide HSZ, unhide HMZ⟩
          case round =>
            clear HSZ HMZ HPF HZL
            obtain ⟨a, b, ys, rfl, rfl, hb, han, hgi, hyl, HR2, hS, hM⟩ := hrel
            have az : (a : Int) ≤ 1024 := by omega
            have bbz : (b : Int) ≤ 10000 := by omega
            have HM := hide hM
            by_cases hbn : b ≤ n
            · have hbnz : (b : Int) ≤ (n : Int) := by omega
              obtain ⟨f2, rfl⟩ : ∃ f2, gk = f2 + 1 := ⟨gk - 1, by omega⟩
              have HC := hide (unhide HSYM ys wr a (a + bs) b hyl hS (by omega) (by omega) hbn)
              rw [show ((a + bs : Nat) : Int) = (a : Int) + (bs : Int) by omega] at HC
              have HE2 : Hid (passF n bs f2 (symF (b - a) ys a (a + bs) b) b = PF) := hide (by rw [← unhide HR2, passF, if_pos (by omega), hb])
              have HYL := hide hyl
              clear hS hM
              have HB := hide hb
              clear hb
              go_wp2_with (go_at_call 163; refine (unhide HC).mono ?_; rintro e w1 ⟨rfl, hs1, hm1⟩; have HS1 := hide hs1; have HM1 := hide hm1; clear hs1 hm1)
              have hb := unhide HB
              go_roundg f2
              case measure => omega
              case rel => exact ⟨b, b + 2 * bs, _, rfl, by simp, rfl, hbn, by omega, by rw [symF_len]; exact unhide HYL, HE2, unhide HS1, (unhide HM).trans (unhide HM1)⟩
            · have hbnz : ¬ (b : Int) ≤ (n : Int) := by omega
              have HD : Hid ((if a + bs < n then symF (n - a) ys a (a + bs) n else ys) = PF) := hide (by rw [← unhide HR2, passF_done _ _ _ _ _ (by omega)])
              by_cases hmn : a + bs < n
              · have hmz : (a : Int) + (bs : Int) < (n : Int) := by omega
                have HC := hide (unhide HSYM ys wr a (a + bs) n hyl hS (by omega) hmn (Nat.le_refl _))
                rw [show ((a + bs : Nat) : Int) = (a : Int) + (bs : Int) by omega] at HC
                have HD2 : Hid (symF (n - a) ys a (a + bs) n = PF) := hide (by have := unhide HD; rw [if_pos hmn] at this; exact this)
                clear hS hM
                have HB := hide hb
                clear hb
                go_wp2_with (go_at_call 163; refine (unhide HC).mono ?_; rintro e w1 ⟨rfl, hs1, hm1⟩; have HS1 := hide hs1; have HM1 := hide hm1; clear hs1 hm1)
                go_roundg f
                case measure => have := (unhide HGF).1; omega
                case rel =>
                  obtain ⟨q1, q2⟩ := unhide HGF
                  exact ⟨2 * bs, PF, by first | (congr 1; omega) | go_num, by omega, by omega, by omega, unhide HPL, HE, by rw [← unhide HD2]; exact unhide HS1, (unhide HM).trans (unhide HM1)⟩
              · have hmz : ¬ (a : Int) + (bs : Int) < (n : Int) := by omega
                have HD2 : Hid (ys = PF) := hide (by have := unhide HD; rw [if_neg hmn] at this; exact this)
                have HS1 := hide hS
                clear hS hM
                go_wp2_with fail
                go_roundg f
                case measure => have := (unhide HGF).1; omega
                case rel =>
                  obtain ⟨q1, q2⟩ := unhide HGF
                  exact ⟨2 * bs, PF, by first | (congr 1; omega) | go_num, by omega, by omega, by omega, unhide HPL, HE, by rw [← unhide HD2]; exact unhide HS1, unhide HM⟩
        · have hltz : ¬ (bs : Int) < (n : Int) := by omega
          have HE : Hid (zs = MF) := hide (by rw [← unhide HR, mrgF_done _ _ _ _ hlt])
          have HSF := hide hS
          have HMF2 := hide hM
          clear hS hM
          go_wp2_with fail
          go_end0
          exact ⟨rfl, by rw [unhide HOUT, ← unhide HE]; exact unhide HSF, unhide HMF2⟩

theorem sort_any {w : World} {base g cap : Nat} {xs : List ShA} (h : ShAt w base g cap xs) (hl : xs.length ≤ 1024) :
    Calls Try.prog 149 #[.slice (some ⟨g, 0, none⟩) xs.length cap, .func (.func 150) #[] #[]] w fun e w' => e = .returned (.tuple #[]) ∧ ShAt w' base g cap (sortS xs) ∧ Mod (fun k => k = g) w w' := by
  have HC := hide (stable_any h hl)
  unfold cmpF at HC
  clear h
  go_enter Try.func149, Try.ntmps149
  go_wp2_with (go_at_call 156; refine (unhide HC).mono ?_; rintro e w1 ⟨rfl, hs1, hm1⟩; have HS1 := hide hs1; have HM1 := hide hm1; clear hs1 hm1)
  go_end0
  exact ⟨rfl, unhide HS1, unhide HM1⟩
end Go.Proofs.Ytlbkoafeedlfaaa

namespace Go.Proofs.Ytlbkoafeedlfaaa
open Go.RowKit

def wordE (s : Int) : ByteArray := if s = 1 then ⟨#[109, 97, 116, 104, 32]⟩ else if s = 2 then ⟨#[115, 118, 103, 32]⟩ else ⟨#[]⟩
def wordA (s : Int) : ByteArray := if s = 3 then ⟨#[120, 108, 105, 110, 107, 32]⟩ else if s = 4 then ⟨#[120, 109, 108, 32]⟩ else if s = 5 then ⟨#[120, 109, 108, 110, 115, 32]⟩ else ⟨#[]⟩
theorem wordE_size (s : Int) : (wordE s).size ≤ 6 := by unfold wordE; split; · decide
                                                        · split <;> decide
theorem wordA_size (s : Int) : (wordA s).size ≤ 6 := by
  unfold wordA
  split
  · decide
  · split
    · decide
    · split <;> decide

theorem elementWord_any (s : Int) (w : World) : Calls Try.prog 135 #[.int .i64 s] w fun e w' => e = .returned (.string (wordE s)) ∧ w' = w := by
  unfold wordE
  by_cases h1 : s = 1
  · subst h1
    go_enter Try.func135, Try.ntmps135
    go_wp2
    go_ret
    exact ⟨rfl, rfl⟩
  · by_cases h2 : s = 2
    · subst h2
      go_enter Try.func135, Try.ntmps135
      go_wp2
      go_ret
      exact ⟨rfl, rfl⟩
    · have b1 : (s == 1) = false := by simpa using h1
      have b2 : (s == 2) = false := by simpa using h2
      rw [if_neg h1, if_neg h2]
      clear h1 h2
      go_enter Try.func135, Try.ntmps135
      go_wp2
      go_ret
      exact ⟨rfl, rfl⟩
theorem attrWord_any (s : Int) (w : World) : Calls Try.prog 148 #[.int .i64 s] w fun e w' => e = .returned (.string (wordA s)) ∧ w' = w := by
  unfold wordA
  by_cases h1 : s = 3
  · subst h1
    go_enter Try.func148, Try.ntmps148
    go_wp2
    go_ret
    exact ⟨rfl, rfl⟩
  · by_cases h2 : s = 4
    · subst h2
      go_enter Try.func148, Try.ntmps148
      go_wp2
      go_ret
      exact ⟨rfl, rfl⟩
    · by_cases h3 : s = 5
      · subst h3
        go_enter Try.func148, Try.ntmps148
        go_wp2
        go_ret
        exact ⟨rfl, rfl⟩
      · have b1 : (s == 3) = false := by simpa using h1
        have b2 : (s == 4) = false := by simpa using h2
        have b3 : (s == 5) = false := by simpa using h3
        rw [if_neg h1, if_neg h2, if_neg h3]
        clear h1 h2 h3
        go_enter Try.func148, Try.ntmps148
        go_wp2
        go_ret
        exact ⟨rfl, rfl⟩

def shA (a : AttrM) : ShA := ⟨wordA a.space ++ a.name, a.val⟩
theorem Try.info173 : (Try.prog.info? 173).map (fun i => (i.zero, i.size, i.bytes)) = some (some (.agg #[.string ⟨#[]⟩, .string ⟨#[]⟩]), 2, 32) := by kernel_rfl

theorem shRow_add (ys : List ShA) (y : ShA) : shRow (ys ++ [y]) = shRow ys ++ [.string y.name, .string y.val] := by unfold shRow; rw [List.flatMap_append]; rfl

/-- One shown attribute more, as a step of a region. -/
theorem step_sh {ops : Array Oper} {o : Oper} {a : Act} {K : Act → World → Prop} {Q : Exit → Act → World → Prop} {E : Prop} {W : World} (hgd : o.guard = none) (s x : Operand)
    (ho : o.op = .call { callee := .builtin .append, args := #[s, x], argTypes := #[170, 170] }) (base g cap b : Nat) (ys : List ShA) (nm vl : ByteArray) (hs : a.eval s = .slice (some ⟨g, 0, none⟩) ys.length cap) (hx : a.eval x = .slice (some ⟨b, 0, none⟩) 1 1)
    (hb : W.heap[b]? = some (.cells #[.string nm, .string vl] 173 (0, 0))) (hS : ShAt W base g cap ys) (hn : ys.length ≤ 2000) (hbase : base ≤ W.heap.size)
    (h : ∀ g' cap' w', ShAt w' base g' cap' (ys ++ [⟨nm, vl⟩]) → Below base W w' → (∀ k, k < W.heap.size → k ≠ g → w'.heap[k]? = W.heap[k]?) → K (a.put o.dst (.slice (some ⟨g', 0, none⟩) (ys.length + 1) cap')) w') :
    if Region.wanted o (yielded ops a.tmps) = true then Oper.wp Try.prog o a W K Q else E := by
  obtain ⟨i0, hi0, hz0, hz1, hz2⟩ := info_parts Try.info173
  refine step_append_lies W hgd s x 170 ho base 173 i0 _ 2 32 Try.underlying170 hi0 hz0 hz1 hz2 rfl (by omega) (.slice (some ⟨g, 0, none⟩) ys.length cap) ys.length (shRow ys) hs hS ⟨b, 0, none⟩ 1 1 [.string nm, .string vl] hx rfl (World.news_of_block hb) (by simp [Value.oneCell']) (by omega) (by unfold maxLen; omega) (by omega) hbase _ rfl ?_
  intro g' cap' w' hown hgrow hat hlt
  refine h g' cap' w' ?_ ((Below.refl base W).grown hgrow hbase ?_) (fun k hk hne => hgrow.block k hk (fun e => hne (by simp [Value.ownBlock] at e; exact e)))
  · unfold ShAt
    rw [shRow_add, List.length_append]
    exact hown
  · intro k hk
    simp [Value.ownBlock] at hk
    subst hk
    exact (ShAt.lt hS).1
end Go.Proofs.Ytlbkoafeedlfaaa

namespace Go.Proofs.Ytlbkoafeedlfaaa
open Go.RowKit

theorem attrs_at {w : World} {a : Option Addr} {l : List AttrM} (h : AttrsIn w a l) {k : Nat} {x : AttrM} (hx : l[k]? = some x) :
    ∃ b off, a = some ⟨b, off, none⟩ ∧ w.cell? ⟨b, off + k * 4, none⟩ = some (.int .i64 x.space) ∧ w.cell? ⟨b, off + k * 4 + 1, none⟩ = some (.string x.pre) ∧ w.cell? ⟨b, off + k * 4 + 2, none⟩ = some (.string x.name) ∧ w.cell? ⟨b, off + k * 4 + 3, none⟩ = some (.string x.val) := by
  exact h.cells k x hx

set_option maxHeartbeats 4000000 in
theorem shown_any {w : World} (a : Option Addr) (c : Nat) (l : List AttrM) (h : AttrsIn w a l) (hl : l.length ≤ 1024) (hz : ∀ x ∈ l, x.name.size ≤ 2000000) :
    Calls Try.prog 136 #[.slice a l.length c] w fun e w' => ∃ g cap, e = .returned (.slice (some ⟨g, 0, none⟩) l.length cap) ∧ ShAt w' w.heap.size g cap (sortS (l.map shA)) ∧ Below w.heap.size w w' := by
  obtain ⟨i0, hi0, hz0, hz1, hz2⟩ := info_parts Try.info173
  have HA := hide h
  have HZ := hide hz
  have HLEN := hide hl
  obtain ⟨n, hn⟩ : ∃ n, l.length = n := ⟨_, rfl⟩
  have HN := hide hn
  have hnz : (n : Int) ≤ 1024 := by omega
  rw [hn]
  clear h hz hl hn
  set_option maxRecDepth 10000 in
  go_enter Try.func136, Try.ntmps136
  set_option maxRecDepth 10000 in
  go_wp2_with (at_make; go_must (refine wpList_make_own _ rfl _ _ 170 rfl w.heap.size 173 i0 _ 2 Try.underlying170 hi0 hz0 hz1 _ _ _ n rfl rfl rfl (by rw [hz2]; omega) (by unfold maxLen; omega) (Nat.le_refl _) ?_); intro w1 hown1 hgrow1; have HG1 : Hid (Below w.heap.size w w1) := hide ((Below.refl _ w).grown hgrow1 (Nat.le_refl _) (by simp)); have HS1 : Hid (ShAt w1 w.heap.size w.heap.size n []) := hide hown1; clear hown1 hgrow1)
  go_loopg [3, 11] n (fun gk s3 s11 wx => ∃ (k g cap : Nat), s11 = .int .i64 k ∧ s3 = .slice (some ⟨g, 0, none⟩) k cap ∧ k + gk = n ∧ ShAt wx w.heap.size g cap ((l.map shA).take k) ∧ Below w.heap.size w wx)
  case atStart => exact ⟨0, _, n, rfl, rfl, by omega, unhide HS1, unhide HG1⟩
  case round =>
    clear HS1 HG1
    obtain ⟨k, g, cap, rfl, rfl, hk, hS, hB⟩ := hrel
    have HB := hide hB
    have HL := unhide HN
    by_cases hkn : k < n
    · have hkz : (k : Int) < (n : Int) := by omega
      obtain ⟨x, hx⟩ : ∃ x, l[k]? = some x := ⟨_, List.getElem?_eq_getElem (by omega)⟩
      have hlen : ((l.map shA).take k).length = k := by simp; omega
      have HT : Hid ((l.map shA).take (k + 1) = (l.map shA).take k ++ [⟨wordA x.space ++ x.name, x.val⟩]) := hide (by
        rw [List.take_add_one, List.getElem?_map, hx]; rfl)
      have hxz := unhide HZ x (List.mem_of_getElem? hx)
      have hwz := wordA_size x.space
      obtain ⟨b, off, ha, x0, x1, x2, x3⟩ := attrs_at ((unhide HA).below (unhide HB)) hx
      have hqs : (wordA x.space).size + x.name.size ≤ 9223372036854775807 := by omega
      have hqs2 : ((wordA x.space).size : Int) + (x.name.size : Int) ≤ 9223372036854775807 := by omega
      have HW := hide (fun W => attrWord_any x.space W)
      have HSX : Hid (∀ W, Below wr.heap.size wr W → ShAt W w.heap.size g cap ((l.map shA).take k)) := hide (fun W hW => hS.below hW)
      have HLK := hide hlen
      clear hS hB hlen hx
      subst ha
      generalize wordA x.space = wd at *
      obtain ⟨xs0, xp, xn, xv⟩ := x
      simp only at *
      have hqs3 : ¬ (9223372036854775807 < wd.size + xn.size) := by omega
      have hq4 : ∀ w : World, (Op.stringOp .add wd xn).run Try.prog w = .ok (.string (wd ++ xn)) w := fun w => run_string_add_sum w wd xn (by omega)
      go_wp2_with fail
      have hbox := heap_alloc_new wr (Obj.cells #[.int .i64 xs0, .string xp, .string xn, .string xv] 29)
      have HBW : Hid (Below wr.heap.size wr (wr.alloc (Obj.cells #[.int .i64 xs0, .string xp, .string xn, .string xv] 29))) := hide ((Below.refl _ wr).alloc (Nat.le_refl _) _)
      generalize wr.alloc (Obj.cells #[.int .i64 xs0, .string xp, .string xn, .string xv] 29) = wx at hbox HBW ⊢
      have HGL := hide (ShAt.lt (unhide HSX wr (Below.refl _ _))).2
      have DB : Hid (∀ W : World, Below wx.heap.size wx W → W.cell? ⟨wr.heap.size, 0, none⟩ = some (.int .i64 xs0) ∧ W.cell? ⟨wr.heap.size, 2, none⟩ = some (.string xn) ∧ W.cell? ⟨wr.heap.size, 3, none⟩ = some (.string xv)) := hide (fun W hW => by
        have h2 := (hW.block wr.heap.size (lt_of_block hbox)).trans hbox
        refine ⟨?_, ?_, ?_⟩ <;> simp [World.cell?, h2])
      have HNB := hide (lt_of_block hbox)
      have HBX := hide hbox
      clear hbox x0 x1 x2 x3
      go_region_held3 (fun w' => w'.cell? ⟨wr.heap.size, 0, none⟩ = some (.int .i64 xs0) ∧ w'.cell? ⟨wr.heap.size, 2, none⟩ = some (.string xn) ∧ w'.cell? ⟨wr.heap.size, 3, none⟩ = some (.string xv)) (first | exact unhide DB _ (Below.refl _ wx) | exact unhide DB _ (Below.refl _ wx).drew | exact unhide HC2 | exact unhide DB _ (((Below.refl _ wx).drew).alloc (Nat.le_refl _) _)) (first
        | (go_at_call 148; refine (unhide HW _).mono ?_; rintro e w1 ⟨rfl, rfl⟩)
        | (refine step_sh (by rfl) _ _ (by rfl) w.heap.size g cap wx.heap.size ((l.map shA).take k) (wd ++ xn) xv (by rw [unhide HLK]; rfl) (by rfl) (by exact heap_alloc_new _ _) (unhide HSX _ ((unhide HBW).trans ((((Below.refl _ wx).drew).alloc (Nat.le_refl _) _).mono (unhide HBW).size))) (by rw [unhide HLK]; omega) (by have := (unhide HB).size; have := (unhide HBW).size; simp; omega) ?_; intro g2 cap2 w2 hs2 hb2 hk2; have HS2 := hide hs2; have HB2 := hide hb2; have HC2 : Hid (w2.cell? ⟨wr.heap.size, 0, none⟩ = some (.int .i64 xs0) ∧ w2.cell? ⟨wr.heap.size, 2, none⟩ = some (.string xn) ∧ w2.cell? ⟨wr.heap.size, 3, none⟩ = some (.string xv)) := hide (by have hbk := (hk2 wr.heap.size (by have := unhide HNB; simp; omega) (by have := unhide HGL; omega)).trans ((((Below.refl _ wx).drew).alloc (Nat.le_refl _) _).block wr.heap.size (unhide HNB) |>.trans (unhide HBX)); refine ⟨?_, ?_, ?_⟩ <;> simp [World.cell?, hbk]); clear hs2 hb2 hk2))
      go_wp2
      go_roundg (gk - 1)
      case measure => omega
      case rel =>
        refine ⟨k + 1, g2, cap2, by go_num, by rw [Nat.min_eq_left (by omega)], by omega, by rw [unhide HT]; exact unhide HS2, ?_⟩
        exact ((unhide HB).trans (((unhide HBW).trans ((((Below.refl _ wx).drew).alloc (Nat.le_refl _) _).mono (unhide HBW).size)).mono (unhide HB).size)).trans (unhide HB2)
    · have hkz : ¬ (k : Int) < (n : Int) := by omega
      obtain rfl : k = n := by omega
      have e0 : (l.map shA).take k = l.map shA := List.take_of_length_le (by simp; omega)
      rw [e0] at hS
      have HC := hide (sort_any hS (by simp; have := unhide HLEN; omega))
      rw [List.length_map, HL] at HC
      have HSB := hide (ShAt.lt hS)
      clear hS hB HL
      go_wp2_with (go_at_call 149; refine (unhide HC).mono ?_; rintro e w2 ⟨rfl, hs2, hm2⟩; have HS2 := hide hs2; have HB2 : Hid (Below w.heap.size w w2) := hide ((unhide HB).trans (hm2.below (unhide HB).size (fun k hk => by rw [hk]; exact (unhide HSB).1))); clear hs2 hm2)
      go_ret
      exact ⟨_, _, rfl, unhide HS2, unhide HB2⟩
end Go.Proofs.Ytlbkoafeedlfaaa
