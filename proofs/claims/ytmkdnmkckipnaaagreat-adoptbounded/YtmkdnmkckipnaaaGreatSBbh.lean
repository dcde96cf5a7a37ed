/-
  Package active: what an element is called, or why a number can't come to have an entry. Package active: a list made; a marker; the entries behind the last marker cleared; what stands at a place.
-/
import Derived.Test.YtmkdnmkckipnaaaGreatSBbg
import Derived.Test.YtmkdnmkckipnaaaGreatSBal
namespace Go.Proofs.YtmkdnmkckipnaaaGreat
open Go.RowKit Go.Sort

structure KinM where
  sp : Int
  nm : ByteArray
def kin0 : KinM := ⟨0, ⟨#[]⟩⟩
/-- What the element of a number is called. -/
def elK (ks : List Key) (id : Int) : Option KinM := match keyAt ks id with
  | some q => if q.kind = 1 then some ⟨q.space, q.name⟩ else none
  | none => none
theorem elK_none {ks : List Key} {id : Int} (h : keyAt ks id = none) : elK ks id = none := by simp [elK, h]
theorem elK_key {ks : List Key} {id : Int} {q : Key} (h : keyAt ks id = some q) : elK ks id = if q.kind = 1 then some ⟨q.space, q.name⟩ else none := by simp [elK, h]
def placeE (es : List EntM) (id : Int) : Int := findP id (pairsN es es.length)
def enterEAc (ks : List Key) (es : List EntM) (id : Int) : Int := if (elK ks id).isSome = true then (if 0 ≤ placeE es id then 1 else 0) else 6
def enterK (ks : List Key) (es : List EntM) (id : Int) : KinM := if enterEAc ks es id = 0 then (elK ks id).getD kin0 else kin0
def KinM.agg (k : KinM) : Value := .agg #[.int .i64 k.sp, .string k.nm]

theorem two_blockAc (w : World) (b : Nat) (v0 v1 x0 x1 : Value) (t : TypeId) (h : w.heap[b]? = some (.cells #[x0, x1] t (0, 0))) : ((w.setCell ⟨b, 0, none⟩ v0).setCell ⟨b, 1, none⟩ v1).heap[b]? = some (.cells #[v0, v1] t (0, 0)) := by
  have h0 := heap_setCell_same w b 0 #[x0, x1] t v0 h
  have h1 := heap_setCell_same _ b 1 _ t v1 h0
  simpa using h1
theorem kin_ret (W : World) (b : Nat) (c : KinM) (h : W.heap[b]? = some (.cells #[.int .i64 c.sp, .string c.nm] 122 (0, 0))) (tmps : Array Value) (x : Value) (h4 : tmps.getD 4 undef = .pointer (some ⟨b, 0, none⟩)) (h5 : tmps.getD 5 undef = x) :
    (results Tryz.f65 tmps).run Tryz.prog W = .ok (.tuple #[c.agg, x]) W :=
  ret_two Tryz.results65 _ _ b _ _ h4 h5 (run_loadVar_row _ _ _ _ _ _ _ h Tryz.underlying122 rfl (by kernel_rfl))
theorem findP_lt (id : Int) : ∀ l : List (Nat × Int), -1 ≤ findP id l
  | [] => by simp [findP]
  | (i, x) :: r => by
    have := findP_lt id r
    unfold findP
    split <;> omega

section
variable {w : World} {base baseA bL bA bW : Nat} {ks : List Key} {F FA : Nat → Prop} {v : Value} {ps : List Nat} {es : List EntM}

set_option maxHeartbeats 4000000 in
theorem mayEnter_any (ha : ArK w baseA bA ks FA) (h : LiM w base bL bA bW F v ps es) (hl : es.length < 1000000000000) (id : Int) :
    Calls Tryz.prog 65 #[.pointer (some ⟨bL, 0, none⟩), .int .i64 id] w fun e w' => e = .returned (.tuple #[(enterK ks es id).agg, .int .i64 (enterEAc ks es id)]) ∧ Below w.heap.size w w' := by
  have hb0 : Below w.heap.size w (w.alloc (.cells #[.int .i64 0, .string ⟨#[]⟩] 122)) := (Below.refl _ w).alloc (Nat.le_refl _) _
  have HM := hide (lmade_any (h.below hb0))
  obtain ⟨h0, h1⟩ := (h.below hb0).cells
  have kb : ∀ w4, Below (w.alloc (.cells #[.int .i64 0, .string ⟨#[]⟩] 122)).heap.size (w.alloc (.cells #[.int .i64 0, .string ⟨#[]⟩] 122)) w4 →
      w4.heap[w.heap.size]? = some (.cells #[.int .i64 0, .string ⟨#[]⟩] 122 (0, 0)) ∧ w.heap.size < w4.heap.size ∧ Below w.heap.size w w4 := by
    intro w4 hb4
    refine ⟨(hb4.block _ (by simp)).trans (heap_alloc_new w _), ?_, hb0.trans (hb4.mono (by simp))⟩
    have := hb4.size
    simp at this
    omega
  have HKB := hide kb
  have fin : ∀ (w4 : World) (c : KinM) (o : Obj), Below w.heap.size w w4 → w.heap.size < w4.heap.size → w4.heap[w.heap.size]? = some (.cells #[.int .i64 0, .string ⟨#[]⟩] 122 (0, 0)) →
      (((w4.setCell ⟨w.heap.size, 0, none⟩ (.int .i64 c.sp)).setCell ⟨w.heap.size, 1, none⟩ (.string c.nm)).alloc o).heap[w.heap.size]? = some (.cells #[.int .i64 c.sp, .string c.nm] 122 (0, 0)) ∧
      Below w.heap.size w (((w4.setCell ⟨w.heap.size, 0, none⟩ (.int .i64 c.sp)).setCell ⟨w.heap.size, 1, none⟩ (.string c.nm)).alloc o) := by
    intro w4 c o b5 hlt hblk
    refine ⟨(Below.heap_alloc _ _ _ (by simp; omega)).trans (two_blockAc _ _ _ _ _ _ _ hblk), ?_⟩
    exact (b5.trans (((Mod.setCell (F := fun k => k = w.heap.size) w4 ⟨w.heap.size, 0, none⟩ _ rfl).trans (Mod.setCell _ ⟨w.heap.size, 1, none⟩ _ rfl)).below b5.size (fun k hk => by omega))).alloc (by simp; omega) _
  have HFIN := hide fin
  have fin2 : ∀ (w4 : World) (c : KinM), Below w.heap.size w w4 → w.heap.size < w4.heap.size → w4.heap[w.heap.size]? = some (.cells #[.int .i64 0, .string ⟨#[]⟩] 122 (0, 0)) →
      ((w4.setCell ⟨w.heap.size, 0, none⟩ (.int .i64 c.sp)).setCell ⟨w.heap.size, 1, none⟩ (.string c.nm)).heap[w.heap.size]? = some (.cells #[.int .i64 c.sp, .string c.nm] 122 (0, 0)) ∧
      Below w.heap.size w ((w4.setCell ⟨w.heap.size, 0, none⟩ (.int .i64 c.sp)).setCell ⟨w.heap.size, 1, none⟩ (.string c.nm)) := by
    intro w4 c b5 hlt hblk
    exact ⟨two_blockAc _ _ _ _ _ _ _ hblk, b5.trans (((Mod.setCell (F := fun k => k = w.heap.size) w4 ⟨w.heap.size, 0, none⟩ _ rfl).trans (Mod.setCell _ ⟨w.heap.size, 1, none⟩ _ rfl)).below b5.size (fun k hk => by omega))⟩
  have HFIN2 := hide fin2
  clear fin2
  have HF : Hid (∀ W, Below (w.alloc (.cells #[.int .i64 0, .string ⟨#[]⟩] 122)).heap.size (w.alloc (.cells #[.int .i64 0, .string ⟨#[]⟩] 122)) W → Calls Tryz.prog 84 #[.pointer (some ⟨bL, 0, none⟩), .int .i64 id] W fun e w' => e = .returned (.int .i64 (placeE es id)) ∧ Below W.heap.size W w') := hide (fun W hb => lfind_any (h.below (kb W hb).2.2) hl id)
  have hpl := findP_lt id (pairsN es es.length)
  change -1 ≤ placeE es id at hpl
  clear kb fin
  unfold enterK enterEAc
  cases hk : keyAt ks id with
  | none =>
    have HN := hide (node_k_no (ha.below hb0) hk)
    rw [elK_none hk]
    simp only [Option.isSome_none, Bool.false_eq_true, if_false, show ((6 : Int) = 0) = False from by decide]
    clear ha h hk hb0 hpl
    go_enter Tryz.func65, Tryz.ntmps65
    go_wp2_with (first | (go_at_call 53; refine (unhide HM).mono ?_; rintro e w1 ⟨rfl, rfl⟩) | (go_at_call 14; refine (unhide HN).mono ?_; rintro e w4 ⟨rfl, hb4⟩; obtain ⟨kb1, kb2, kb3⟩ := (unhide HKB) w4 hb4; have k0 : w4.cell? ⟨w.heap.size, 0, none⟩ = some (.int .i64 0) := (by simp [World.cell?, kb1]); have k1 : w4.cell? ⟨w.heap.size, 1, none⟩ = some (.string ⟨#[]⟩) := (by simp [World.cell?, kb1]); have f0 : w4.frozen? ⟨w.heap.size, 0, none⟩ = false := (by simp [World.frozen?, kb1]); have f1 : w4.frozen? ⟨w.heap.size, 1, none⟩ = false := (by simp [World.frozen?, kb1]); have kne : ¬ w.heap.size = w4.heap.size := (by omega); have kne2 : ¬ w4.heap.size = w.heap.size := (by omega); have klt : w.heap.size < w4.heap.size := (by omega); have HB1 := hide kb1; have HB2 := hide kb2; have HB3 := hide kb3; have HB4 := hide hb4; unfold nodeZ; clear hb4 kb1 kb2 kb3))
    have R := fun c o => (unhide HFIN) w4 c o (unhide HB3) (unhide HB2) (unhide HB1)
    exact bodyPost_ret (v := .tuple #[kin0.agg, .int .i64 6]) (kin_ret _ w.heap.size kin0 (R kin0 _).1 _ _ rfl rfl) rfl ⟨rfl, (R kin0 _).2⟩
  | some q =>
    have HN := hide (node_k (ha.below hb0) hk)
    have e0 := elK_key hk
    obtain ⟨qk, qs, qn⟩ := q
    by_cases hq1 : qk = 1
    · subst hq1
      simp only [if_true] at e0
      rw [e0]
      simp only [Option.isSome_some, if_true, Option.getD_some]
      have HX5 : Hid (∀ w4 o w5, Below (w.alloc (.cells #[.int .i64 0, .string ⟨#[]⟩] 122)).heap.size (w.alloc (.cells #[.int .i64 0, .string ⟨#[]⟩] 122)) w4 → Below (w4.alloc o).heap.size (w4.alloc o) w5 → w5.heap[w.heap.size]? = some (.cells #[.int .i64 0, .string ⟨#[]⟩] 122 (0, 0)) ∧ w.heap.size < w5.heap.size ∧ Below w.heap.size w w5 ∧ w5.heap[w4.heap.size]? = some o) := hide (fun w4 o w5 h4 h5 => by
        obtain ⟨a1, a2, a3⟩ := (unhide HKB) w5 (h4.trans (((below_newAc w4 o).trans (h5.mono (by simp))).mono h4.size))
        exact ⟨a1, a2, a3, (h5.block _ (by simp)).trans (heap_alloc_new w4 o)⟩)
      by_cases hp : 0 ≤ placeE es id
      · rw [if_pos hp]
        simp only [show ((1 : Int) = 0) = False from by decide, if_false]
        generalize placeE es id = pl at *
        clear ha h hk e0 hb0
        go_enter Tryz.func65, Tryz.ntmps65
        go_wp2_with (first | (go_at_call 53; refine (unhide HM).mono ?_; rintro e w1 ⟨rfl, rfl⟩) | (go_at_call 14; refine (unhide HN).mono ?_; rintro e w4 ⟨n, ao, mm, cc, rfl, hq, hb4⟩; obtain ⟨nk, nsp, nnm, nav, nda, nsy, npa, nfi, nla, npr, nne, nin, nat⟩ := n; obtain ⟨kb1, kb2, kb3⟩ := (unhide HKB) w4 hb4; have k0 : w4.cell? ⟨w.heap.size, 0, none⟩ = some (.int .i64 0) := (by simp [World.cell?, kb1]); have k1 : w4.cell? ⟨w.heap.size, 1, none⟩ = some (.string ⟨#[]⟩) := (by simp [World.cell?, kb1]); have f0 : w4.frozen? ⟨w.heap.size, 0, none⟩ = false := (by simp [World.frozen?, kb1]); have f1 : w4.frozen? ⟨w.heap.size, 1, none⟩ = false := (by simp [World.frozen?, kb1]); have kne : ¬ w.heap.size = w4.heap.size := (by omega); have kne2 : ¬ w4.heap.size = w.heap.size := (by omega); have klt : w.heap.size < w4.heap.size := (by omega); have HB1 := hide kb1; have HB2 := hide kb2; have HB3 := hide kb3; have HB4 := hide hb4; simp only [nodeV, NodeM.cells]; simp only [keyN, Key.mk.injEq] at hq; obtain ⟨rfl, rfl, rfl⟩ := hq; clear hb4 kb1 kb2 kb3) | (go_at_call 84; refine ((unhide HF) _ (by exact (unhide HB4).alloc (unhide HB4).size _)).mono ?_; rintro e w5 ⟨rfl, hb⟩; obtain ⟨x1, x2, x3, x4⟩ := (unhide HX5) _ _ _ (unhide HB4) hb; have m0 : w5.cell? ⟨w.heap.size, 0, none⟩ = some (.int .i64 0) := cell_of_row _ _ 0 _ _ _ x1; have m1 : w5.cell? ⟨w.heap.size, 1, none⟩ = some (.string ⟨#[]⟩) := cell_of_row _ _ 1 _ _ _ x1; have g0 : w5.frozen? ⟨w.heap.size, 0, none⟩ = false := free_row x1 0; have g1 : w5.frozen? ⟨w.heap.size, 1, none⟩ = false := free_row x1 1; have n1 : w5.cell? ⟨w4.heap.size, 1, none⟩ = some (.int .i64 nsp) := cell_of_row _ _ 1 _ _ _ x4; have n2 : w5.cell? ⟨w4.heap.size, 2, none⟩ = some (.string nnm) := cell_of_row _ _ 2 _ _ _ x4; have X1 := hide x1; have X2 := hide x2; have X3 := hide x3; clear x1 x2 x3 x4 hb))
        have R := fun c => (unhide HFIN2) w5 c (unhide X3) (unhide X2) (unhide X1)
        exact bodyPost_ret (v := .tuple #[kin0.agg, .int .i64 1]) (kin_ret _ w.heap.size kin0 (R kin0).1 _ _ rfl rfl) rfl ⟨rfl, (R kin0).2⟩
      · rw [if_neg hp]
        simp only [if_true]
        generalize placeE es id = pl at *
        clear ha h hk e0 hb0
        go_enter Tryz.func65, Tryz.ntmps65
        go_wp2_with (first | (go_at_call 53; refine (unhide HM).mono ?_; rintro e w1 ⟨rfl, rfl⟩) | (go_at_call 14; refine (unhide HN).mono ?_; rintro e w4 ⟨n, ao, mm, cc, rfl, hq, hb4⟩; obtain ⟨nk, nsp, nnm, nav, nda, nsy, npa, nfi, nla, npr, nne, nin, nat⟩ := n; obtain ⟨kb1, kb2, kb3⟩ := (unhide HKB) w4 hb4; have k0 : w4.cell? ⟨w.heap.size, 0, none⟩ = some (.int .i64 0) := (by simp [World.cell?, kb1]); have k1 : w4.cell? ⟨w.heap.size, 1, none⟩ = some (.string ⟨#[]⟩) := (by simp [World.cell?, kb1]); have f0 : w4.frozen? ⟨w.heap.size, 0, none⟩ = false := (by simp [World.frozen?, kb1]); have f1 : w4.frozen? ⟨w.heap.size, 1, none⟩ = false := (by simp [World.frozen?, kb1]); have kne : ¬ w.heap.size = w4.heap.size := (by omega); have kne2 : ¬ w4.heap.size = w.heap.size := (by omega); have klt : w.heap.size < w4.heap.size := (by omega); have HB1 := hide kb1; have HB2 := hide kb2; have HB3 := hide kb3; have HB4 := hide hb4; simp only [nodeV, NodeM.cells]; simp only [keyN, Key.mk.injEq] at hq; obtain ⟨rfl, rfl, rfl⟩ := hq; clear hb4 kb1 kb2 kb3) | (go_at_call 84; refine ((unhide HF) _ (by exact (unhide HB4).alloc (unhide HB4).size _)).mono ?_; rintro e w5 ⟨rfl, hb⟩; obtain ⟨x1, x2, x3, x4⟩ := (unhide HX5) _ _ _ (unhide HB4) hb; have m0 : w5.cell? ⟨w.heap.size, 0, none⟩ = some (.int .i64 0) := cell_of_row _ _ 0 _ _ _ x1; have m1 : w5.cell? ⟨w.heap.size, 1, none⟩ = some (.string ⟨#[]⟩) := cell_of_row _ _ 1 _ _ _ x1; have g0 : w5.frozen? ⟨w.heap.size, 0, none⟩ = false := free_row x1 0; have g1 : w5.frozen? ⟨w.heap.size, 1, none⟩ = false := free_row x1 1; have n1 : w5.cell? ⟨w4.heap.size, 1, none⟩ = some (.int .i64 nsp) := cell_of_row _ _ 1 _ _ _ x4; have n2 : w5.cell? ⟨w4.heap.size, 2, none⟩ = some (.string nnm) := cell_of_row _ _ 2 _ _ _ x4; have X1 := hide x1; have X2 := hide x2; have X3 := hide x3; clear x1 x2 x3 x4 hb))
        have R := fun c => (unhide HFIN2) w5 c (unhide X3) (unhide X2) (unhide X1)
        exact bodyPost_ret (v := .tuple #[KinM.agg ⟨_, _⟩, .int .i64 0]) (kin_ret _ w.heap.size ⟨_, _⟩ (R ⟨_, _⟩).1 _ _ rfl rfl) rfl ⟨rfl, (R ⟨_, _⟩).2⟩
    · rw [if_neg hq1] at e0
      rw [e0]
      simp only [Option.isSome_none, Bool.false_eq_true, if_false, show ((6 : Int) = 0) = False from by decide]
      have hq1' : (qk != 1) = true := by simpa using hq1
      clear ha h hk e0 hb0 hq1 hpl
      go_enter Tryz.func65, Tryz.ntmps65
      go_wp2_with (first | (go_at_call 53; refine (unhide HM).mono ?_; rintro e w1 ⟨rfl, rfl⟩) | (go_at_call 14; refine (unhide HN).mono ?_; rintro e w4 ⟨n, ao, mm, cc, rfl, hq, hb4⟩; obtain ⟨nk, nsp, nnm, nav, nda, nsy, npa, nfi, nla, npr, nne, nin, nat⟩ := n; obtain ⟨kb1, kb2, kb3⟩ := (unhide HKB) w4 hb4; have k0 : w4.cell? ⟨w.heap.size, 0, none⟩ = some (.int .i64 0) := (by simp [World.cell?, kb1]); have k1 : w4.cell? ⟨w.heap.size, 1, none⟩ = some (.string ⟨#[]⟩) := (by simp [World.cell?, kb1]); have f0 : w4.frozen? ⟨w.heap.size, 0, none⟩ = false := (by simp [World.frozen?, kb1]); have f1 : w4.frozen? ⟨w.heap.size, 1, none⟩ = false := (by simp [World.frozen?, kb1]); have kne : ¬ w.heap.size = w4.heap.size := (by omega); have kne2 : ¬ w4.heap.size = w.heap.size := (by omega); have klt : w.heap.size < w4.heap.size := (by omega); have HB1 := hide kb1; have HB2 := hide kb2; have HB3 := hide kb3; have HB4 := hide hb4; simp only [nodeV, NodeM.cells]; simp only [keyN, Key.mk.injEq] at hq; obtain ⟨rfl, rfl, rfl⟩ := hq; clear hb4 kb1 kb2 kb3))
      have R := fun c o => (unhide HFIN) w4 c o (unhide HB3) (unhide HB2) (unhide HB1)
      exact bodyPost_ret (v := .tuple #[kin0.agg, .int .i64 6]) (kin_ret _ w.heap.size kin0 (R kin0 _).1 _ _ rfl rfl) rfl ⟨rfl, (R kin0 _).2⟩
end
end Go.Proofs.YtmkdnmkckipnaaaGreat

namespace Go.Proofs.YtmkdnmkckipnaaaGreat
open Go.RowKit Go.Sort

/-- As the row's own scans, told without places in memory. -/
def scanE (x : EntM) (es : List EntM) : Nat → Int × Int → Int × Int
  | 0, s => s
  | i + 1, s => match es[i]? with
    | some y => if y.node = -1 then s else scanE x es i (if alikeM x y = true then ((i : Int), s.2 + 1) else s)
    | none => s
def lastE (nm : ByteArray) (es : List EntM) : Nat → Int
  | 0 => -1
  | i + 1 => match es[i]? with
    | some y => if y.node = -1 then -1 else if kinB y.sp 0 y.nm nm = true then y.node else lastE nm es i
    | none => -1
theorem scanP_E {es : List EntM} {ps : List Nat} (hl : ps.length = es.length) (x : EntM) : ∀ (n : Nat) (s : Int × Int), n ≤ es.length → (behN es ps n).foldl (fun s y => if alikeM x y.x = true then ((y.i : Int), s.2 + 1) else s) s = scanE x es n s
  | 0, s, _ => rfl
  | i + 1, s, h => by
    obtain ⟨y, hy⟩ : ∃ y, es[i]? = some y := ⟨_, List.getElem?_eq_getElem (by omega)⟩
    obtain ⟨b, hb⟩ : ∃ b, ps[i]? = some b := ⟨_, List.getElem?_eq_getElem (by omega)⟩
    rw [behN_succ hy hb, scanE, hy]
    by_cases e : y.node = -1
    · simp only [e, if_true]; rfl
    · simp only [e, if_false, List.foldl_cons]
      exact scanP_E hl x i _ (by omega)
theorem lastP_E {es : List EntM} {ps : List Nat} (hl : ps.length = es.length) (nm : ByteArray) : ∀ (n : Nat), n ≤ es.length → lastP nm (behN es ps n) = lastE nm es n
  | 0, _ => rfl
  | i + 1, h => by
    obtain ⟨y, hy⟩ : ∃ y, es[i]? = some y := ⟨_, List.getElem?_eq_getElem (by omega)⟩
    obtain ⟨b, hb⟩ : ∃ b, ps[i]? = some b := ⟨_, List.getElem?_eq_getElem (by omega)⟩
    rw [behN_succ hy hb, lastE, hy]
    by_cases e : y.node = -1
    · simp only [e, if_true]; rfl
    · simp only [e, if_false, lastP]
      rw [lastP_E hl nm i (by omega)]
def surE (x : EntM) (es : List EntM) : Int := if (scanE x es es.length (-1, 0)).2 < 3 then -1 else (scanE x es es.length (-1, 0)).1
theorem surP_E {es : List EntM} {ps : List Nat} (hl : ps.length = es.length) (x : EntM) : surP x (behN es ps es.length) = surE x es := by
  unfold surP surE scanP
  rw [scanP_E hl x es.length _ (Nat.le_refl _)]
theorem scanE_lt (x : EntM) (es : List EntM) : ∀ (n : Nat) (s : Int × Int), n ≤ es.length → -1 ≤ s.1 ∧ s.1 < (es.length : Int) → -1 ≤ (scanE x es n s).1 ∧ (scanE x es n s).1 < (es.length : Int)
  | 0, s, _, h => h
  | i + 1, s, hn, h => by
    unfold scanE
    split
    · split
      · exact h
      · refine scanE_lt x es i _ (by omega) ?_
        split
        · simp; omega
        · exact h
    · exact h
theorem surE_lt (x : EntM) (es : List EntM) : -1 ≤ surE x es ∧ (surE x es < (es.length : Int) ∨ surE x es = -1) := by
  unfold surE
  split
  · exact ⟨by omega, .inr rfl⟩
  · by_cases h0 : es.length = 0
    · rw [h0]; exact ⟨by simp [scanE], .inr (by simp [scanE])⟩
    · have := scanE_lt x es es.length (-1, 0) (Nat.le_refl _) ⟨by omega, by simp; omega⟩
      exact ⟨this.1, .inl this.2⟩

def delE (es : List EntM) (i : Int) : List EntM := if 0 ≤ i then es.take i.toNat ++ es.drop (i.toNat + 1) else es
theorem lastM_lt (es : List EntM) : ∀ n, -1 ≤ lastM es n ∧ lastM es n < (n : Int)
  | 0 => by simp [lastM]
  | n + 1 => by
    have ih := lastM_lt es n
    unfold lastM
    split
    · split <;> omega
    · omega
/-- How many entries Clear leaves. -/
def leftN (es : List EntM) : Nat := (lastM es es.length).toNat

theorem UpdWAc.of {w w4 w' : World} {base bW : Nat} {F G : Nat → Prop} {es : List EntM} (hM : Mod F w w4) (hG : ∀ k, G k → F k ∨ w.heap.size ≤ k) (hu : UpdWAc G w4 w' base bW es) : UpdWAc F w w' base bW es := by
  obtain ⟨F', h1, h2, h3⟩ := hu
  refine ⟨F', h1, mod_then hM h2 hG, fun k hk => ?_⟩
  rcases h3 k hk with e | e
  · exact hG k e
  · exact .inr (Nat.le_trans hM.size e)
/-- A new entry put in. -/
theorem put_gen {w : World} {base bW bx : Nat} {F FX : Nat → Prop} {v : Value} {ps : List Nat} {es : List EntM} {x : EntM} (h : RowMAc w base bW F v ps es) (hx : EntIn w FX bx x) (hFX : ∀ k, FX k → base ≤ k ∧ k < w.heap.size) (hn : ¬ F bx) (i : Nat) (hi : i ≤ es.length) (hl : es.length < 1000000000000) :
    Calls Tryz.prog 69 #[.pointer (some ⟨bW, 0, none⟩), .int .i64 i, ptrV bx] w fun e w' => e = .returned (.tuple #[]) ∧ UpdWAc (fun k => F k ∨ FX k) w w' base bW (es.take i ++ x :: es.drop i) := by
  refine rput_any (h.wide (fun k hk => .inl hk) (fun k hk => hk.elim (h.lt k) (hFX k))) (hx.wide (fun k hk => .inr hk)) (fun hm => ?_) i hi hl
  obtain ⟨j, hj⟩ := List.mem_iff_getElem?.1 hm
  obtain ⟨y, hy⟩ : ∃ y, es[j]? = some y := ⟨_, List.getElem?_eq_getElem (by rw [← h.len]; exact (List.getElem?_eq_some_iff.1 hj).1)⟩
  exact hn (h.ents j bx y hj hy).fb

section
variable {w : World} {base baseA bL bA bW : Nat} {ks : List Key} {F FA FL : Nat → Prop} {v : Value} {ps : List Nat} {es : List EntM}

set_option maxHeartbeats 1000000 in
theorem lnew_any (ha : ArK w baseA bA ks FA) (hb : base ≤ w.heap.size) : Calls Tryz.prog 24 #[.pointer (some ⟨bA, 0, none⟩)] w fun e w' => ∃ bL F, e = .returned (.tuple #[.pointer (some ⟨bL, 0, none⟩), .int .i64 0]) ∧ LiS w' base bL bA [] F ∧ Below w.heap.size w w' ∧ ∀ k, F k → w.heap.size ≤ k := by
  have HL := hide (len_k ha)
  have hm := ha.most
  have hz : ((ks.length : Int) == 0) = false := beq_eq_false_iff_ne.2 (by omega)
  have HB := hide hb
  clear ha hm hb
  go_enter Tryz.func24, Tryz.ntmps24
  go_wp2_with (go_at_call 12; refine (unhide HL).mono ?_; rintro e w1 ⟨rfl, rfl⟩)
  go_ret2
  have hB := below_two w (.cells #[.slice none 0 0] 141) (.cells #[.pointer (some ⟨bA, 0, none⟩), .pointer (some ⟨w.heap.size, 0, none⟩)] 118)
  refine ⟨w.heap.size + 1, fun k => k = w.heap.size + 1 ∨ k = w.heap.size, rfl, ⟨w.heap.size, .slice none 0 0, [], fun k => k = w.heap.size, ⟨heap_alloc2_new _ _ _, ⟨heap_alloc2_old _ _ _, World.ownsRow_nil _ _ _ _, rfl, List.nodup_nil, fun i b x e => by simp at e, rfl, fun k e => by simp [Value.ownBlock] at e, fun k e => ?_⟩, by omega, by have := unhide HB; omega⟩, fun k => Iff.rfl⟩, hB, fun k e => by omega⟩
  have := unhide HB
  subst e
  simp
  omega

set_option maxHeartbeats 2000000 in
theorem lmark_any (h : LiM w base bL bA bW F v ps es) (hF : ∀ k, FL k ↔ (k = bL ∨ F k)) (hl : es.length < 1000000000000) : Calls Tryz.prog 31 #[.pointer (some ⟨bL, 0, none⟩)] w fun e w' => e = .returned (.int .i64 0) ∧ UpdL FL w w' base bL bA (es ++ [mark0]) := by
  obtain ⟨h0, h1⟩ := h.cells
  have HM := hide (lmade_any h)
  have HSZ := hide (fun (W : World) (hb : Below w.heap.size w W) => rsize_any (h.below hb).row)
  have HP : Hid (∀ w2, Below w.heap.size w w2 → EntIn w2 (fun k => w.heap.size ≤ k ∧ k < w2.heap.size) w.heap.size mark0 → Calls Tryz.prog 69 #[.pointer (some ⟨bW, 0, none⟩), .int .i64 es.length, .pointer (some ⟨w.heap.size, 0, none⟩)] w2 fun e w' => e = .returned (.tuple #[]) ∧ UpdL FL w w' base bL bA (es ++ [mark0]) ∧ w'.cell? ⟨bL, 1, none⟩ = some (.pointer (some ⟨bW, 0, none⟩))) := hide (fun w2 hb hx => by
    have hlo := h.lo
    have hlt := lt_of_block h.box
    refine (put_gen (h.below hb).row hx (fun k hk => ⟨by omega, hk.2⟩) (fun e => by have := h.row.lt _ e; omega) es.length (Nat.le_refl _) hl).mono ?_
    rintro e w' ⟨rfl, hu⟩
    rw [List.take_length, List.drop_length] at hu
    have hu2 := UpdWAc.of (Mod.of_below (F := F) hb) (fun k hk => hk.imp id (fun e => e.1)) hu
    refine ⟨rfl, h.upd hF hu2, ?_⟩
    obtain ⟨_, _, h2, _⟩ := hu2
    exact cell_of_row _ _ 1 _ _ _ ((h2.block bL hlt h.nl).trans h.box))
  have HC : Hid (∀ W, Below w.heap.size w W → W.cell? ⟨bL, 1, none⟩ = some (.pointer (some ⟨bW, 0, none⟩))) := hide (fun W hb => ((h.below hb).cells).2)
  clear h hF hl
  go_enter Tryz.func31, Tryz.ntmps31
  go_wp2_with (first | (go_at_call 53; refine (unhide HM).mono ?_; rintro e w1 ⟨rfl, rfl⟩))
  go_region_held3 (fun W' => W'.cell? ⟨bL, 1, none⟩ = some (.pointer (some ⟨bW, 0, none⟩))) (first | exact unhide HC3 | exact (unhide HC) w2 (unhide HB2) | exact (unhide HC) w (Below.refl _ _)) (first
    | (go_at_call 54; refine ((unhide HSZ) _ (by first | exact Below.refl _ _ | exact (Below.refl _ _).drew)).mono ?_; rintro e w1 ⟨rfl, rfl⟩)
    | (go_at_call 78; refine (newMarker_any _).mono ?_; rintro e w2 ⟨rfl, hx, hb⟩; have HX := hide hx; have HB2 := hide (show Below w.heap.size w w2 from ⟨hb.os, hb.tape, hb.output, hb.size, hb.block⟩); clear hx hb)
    | (go_at_call 69; refine ((unhide HP) _ (by first | exact unhide HB2 | exact (unhide HB2).drew) (by exact unhide HX)).mono ?_; rintro e w3 ⟨rfl, hu, hc3⟩; have HU := hide hu; have HC3 := hide hc3; clear hu hc3))
  all_goals go_wp2
  all_goals go_ret
  all_goals exact ⟨rfl, unhide HU⟩

end
end Go.Proofs.YtmkdnmkckipnaaaGreat
