/-
  Package active: what an element is called, or why a number can't come to have an entry.
-/
import Derived.Test.YtabdgmcajndgbaaSBam
import Derived.Test.YtabdgmcajndgbaaSBar
namespace Go.Proofs.Ytabdgmcajndgbaa
open Go.RowKit Go.Sort

structure KinM where
  sp : Int
  nm : ByteArray
def kin0 : KinM := ⟨0, ⟨#[]⟩⟩
/-- What the element of a number is called. -/
def elK (ks : List Key) (id : Int) : Option KinM := match keyAt ks id with
  | some q => if q.kind = 1 then some ⟨q.space, q.name⟩ else none
  | none => none
theorem elK_none {ks : List Key} {id : Int} (h : keyAt ks id = none) : elK ks id = none := by simp [elK, h]
theorem elK_key {ks : List Key} {id : Int} {q : Key} (h : keyAt ks id = some q) : elK ks id = if q.kind = 1 then some ⟨q.space, q.name⟩ else none := by simp [elK, h]
def placeE (es : List EntM) (id : Int) : Int := findP id (pairsN es es.length)
def enterE (ks : List Key) (es : List EntM) (id : Int) : Int := if (elK ks id).isSome = true then (if 0 ≤ placeE es id then 1 else 0) else 6
def enterK (ks : List Key) (es : List EntM) (id : Int) : KinM := if enterE ks es id = 0 then (elK ks id).getD kin0 else kin0
def KinM.agg (k : KinM) : Value := .agg #[.int .i64 k.sp, .string k.nm]

theorem two_block (w : World) (b : Nat) (v0 v1 x0 x1 : Value) (t : TypeId) (h : w.heap[b]? = some (.cells #[x0, x1] t (0, 0))) : ((w.setCell ⟨b, 0, none⟩ v0).setCell ⟨b, 1, none⟩ v1).heap[b]? = some (.cells #[v0, v1] t (0, 0)) := by
  have h0 := heap_setCell_same w b 0 #[x0, x1] t v0 h
  have h1 := heap_setCell_same _ b 1 _ t v1 h0
  simpa using h1
theorem kin_ret (W : World) (b : Nat) (c : KinM) (h : W.heap[b]? = some (.cells #[.int .i64 c.sp, .string c.nm] 81 (0, 0))) (tmps : Array Value) (x : Value) (h4 : tmps.getD 4 undef = .pointer (some ⟨b, 0, none⟩)) (h5 : tmps.getD 5 undef = x) :
    (results Try.f48 tmps).run Try.prog W = .ok (.tuple #[c.agg, x]) W :=
  ret_two Try.results48 _ _ b _ _ h4 h5 (run_loadVar_row _ _ _ _ _ _ _ h Try.underlying81 rfl (by kernel_rfl))
theorem findP_lt (id : Int) : ∀ l : List (Nat × Int), -1 ≤ findP id l
  | [] => by simp [findP]
  | (i, x) :: r => by
    have := findP_lt id r
    unfold findP
    split <;> omega

section
variable {w : World} {base baseA bL bA bW : Nat} {ks : List Key} {F FA : Nat → Prop} {v : Value} {ps : List Nat} {es : List EntM}

set_option maxHeartbeats 4000000 in
theorem mayEnter_any (ha : ArK w baseA bA ks FA) (h : LiM w base bL bA bW F v ps es) (hl : es.length < 1000000000000) (id : Int) :
    Calls Try.prog 48 #[.pointer (some ⟨bL, 0, none⟩), .int .i64 id] w fun e w' => e = .returned (.tuple #[(enterK ks es id).agg, .int .i64 (enterE ks es id)]) ∧ Below w.heap.size w w' := by
  have hb0 : Below w.heap.size w (w.alloc (.cells #[.int .i64 0, .string ⟨#[]⟩] 81)) := (Below.refl _ w).alloc (Nat.le_refl _) _
  have HM := hide (lmade_any (h.below hb0))
  obtain ⟨h0, h1⟩ := (h.below hb0).cells
  have kb : ∀ w4, Below (w.alloc (.cells #[.int .i64 0, .string ⟨#[]⟩] 81)).heap.size (w.alloc (.cells #[.int .i64 0, .string ⟨#[]⟩] 81)) w4 →
      w4.heap[w.heap.size]? = some (.cells #[.int .i64 0, .string ⟨#[]⟩] 81 (0, 0)) ∧ w.heap.size < w4.heap.size ∧ Below w.heap.size w w4 := by
    intro w4 hb4
    refine ⟨(hb4.block _ (by simp)).trans (heap_alloc_new w _), ?_, hb0.trans (hb4.mono (by simp))⟩
    have := hb4.size
    simp at this
    omega
  have HKB := hide kb
  have fin : ∀ (w4 : World) (c : KinM) (o : Obj), Below w.heap.size w w4 → w.heap.size < w4.heap.size → w4.heap[w.heap.size]? = some (.cells #[.int .i64 0, .string ⟨#[]⟩] 81 (0, 0)) →
      (((w4.setCell ⟨w.heap.size, 0, none⟩ (.int .i64 c.sp)).setCell ⟨w.heap.size, 1, none⟩ (.string c.nm)).alloc o).heap[w.heap.size]? = some (.cells #[.int .i64 c.sp, .string c.nm] 81 (0, 0)) ∧
      Below w.heap.size w (((w4.setCell ⟨w.heap.size, 0, none⟩ (.int .i64 c.sp)).setCell ⟨w.heap.size, 1, none⟩ (.string c.nm)).alloc o) := by
    intro w4 c o b5 hlt hblk
    refine ⟨(Below.heap_alloc _ _ _ (by simp; omega)).trans (two_block _ _ _ _ _ _ _ hblk), ?_⟩
    exact (b5.trans (((Mod.setCell (F := fun k => k = w.heap.size) w4 ⟨w.heap.size, 0, none⟩ _ rfl).trans (Mod.setCell _ ⟨w.heap.size, 1, none⟩ _ rfl)).below b5.size (fun k hk => by omega))).alloc (by simp; omega) _
  have HFIN := hide fin
  have fin2 : ∀ (w4 : World) (c : KinM), Below w.heap.size w w4 → w.heap.size < w4.heap.size → w4.heap[w.heap.size]? = some (.cells #[.int .i64 0, .string ⟨#[]⟩] 81 (0, 0)) →
      ((w4.setCell ⟨w.heap.size, 0, none⟩ (.int .i64 c.sp)).setCell ⟨w.heap.size, 1, none⟩ (.string c.nm)).heap[w.heap.size]? = some (.cells #[.int .i64 c.sp, .string c.nm] 81 (0, 0)) ∧
      Below w.heap.size w ((w4.setCell ⟨w.heap.size, 0, none⟩ (.int .i64 c.sp)).setCell ⟨w.heap.size, 1, none⟩ (.string c.nm)) := by
    intro w4 c b5 hlt hblk
    exact ⟨two_block _ _ _ _ _ _ _ hblk, b5.trans (((Mod.setCell (F := fun k => k = w.heap.size) w4 ⟨w.heap.size, 0, none⟩ _ rfl).trans (Mod.setCell _ ⟨w.heap.size, 1, none⟩ _ rfl)).below b5.size (fun k hk => by omega))⟩
  have HFIN2 := hide fin2
  clear fin2
  have HF : Hid (∀ W, Below (w.alloc (.cells #[.int .i64 0, .string ⟨#[]⟩] 81)).heap.size (w.alloc (.cells #[.int .i64 0, .string ⟨#[]⟩] 81)) W → Calls Try.prog 9 #[.pointer (some ⟨bL, 0, none⟩), .int .i64 id] W fun e w' => e = .returned (.int .i64 (placeE es id)) ∧ Below W.heap.size W w') := hide (fun W hb => lfind_any (h.below (kb W hb).2.2) hl id)
  have hpl := findP_lt id (pairsN es es.length)
  change -1 ≤ placeE es id at hpl
  clear kb fin
  unfold enterK enterE
  cases hk : keyAt ks id with
  | none =>
    have HN := hide (node_k_no (ha.below hb0) hk)
    rw [elK_none hk]
    simp only [Option.isSome_none, Bool.false_eq_true, if_false, show ((6 : Int) = 0) = False from by decide]
    clear ha h hk hb0 hpl
    go_enter Try.func48, Try.ntmps48
    go_wp2_with (first | (go_at_call 34; refine (unhide HM).mono ?_; rintro e w1 ⟨rfl, rfl⟩) | (go_at_call 65; refine (unhide HN).mono ?_; rintro e w4 ⟨rfl, hb4⟩; obtain ⟨kb1, kb2, kb3⟩ := (unhide HKB) w4 hb4; have k0 : w4.cell? ⟨w.heap.size, 0, none⟩ = some (.int .i64 0) := (by simp [World.cell?, kb1]); have k1 : w4.cell? ⟨w.heap.size, 1, none⟩ = some (.string ⟨#[]⟩) := (by simp [World.cell?, kb1]); have f0 : w4.frozen? ⟨w.heap.size, 0, none⟩ = false := (by simp [World.frozen?, kb1]); have f1 : w4.frozen? ⟨w.heap.size, 1, none⟩ = false := (by simp [World.frozen?, kb1]); have kne : ¬ w.heap.size = w4.heap.size := (by omega); have kne2 : ¬ w4.heap.size = w.heap.size := (by omega); have klt : w.heap.size < w4.heap.size := (by omega); have HB1 := hide kb1; have HB2 := hide kb2; have HB3 := hide kb3; have HB4 := hide hb4; unfold nodeZ; clear hb4 kb1 kb2 kb3))
    have R := fun c o => (unhide HFIN) w4 c o (unhide HB3) (unhide HB2) (unhide HB1)
    exact bodyPost_ret (v := .tuple #[kin0.agg, .int .i64 6]) (kin_ret _ w.heap.size kin0 (R kin0 _).1 _ _ rfl rfl) rfl ⟨rfl, (R kin0 _).2⟩
  | some q =>
    have HN := hide (node_k (ha.below hb0) hk)
    have e0 := elK_key hk
    obtain ⟨qk, qs, qn⟩ := q
    by_cases hq1 : qk = 1
    · subst hq1
      simp only [if_true] at e0
      rw [e0]
      simp only [Option.isSome_some, if_true, Option.getD_some]
      have HX5 : Hid (∀ w4 o w5, Below (w.alloc (.cells #[.int .i64 0, .string ⟨#[]⟩] 81)).heap.size (w.alloc (.cells #[.int .i64 0, .string ⟨#[]⟩] 81)) w4 → Below (w4.alloc o).heap.size (w4.alloc o) w5 → w5.heap[w.heap.size]? = some (.cells #[.int .i64 0, .string ⟨#[]⟩] 81 (0, 0)) ∧ w.heap.size < w5.heap.size ∧ Below w.heap.size w w5 ∧ w5.heap[w4.heap.size]? = some o) := hide (fun w4 o w5 h4 h5 => by
        obtain ⟨a1, a2, a3⟩ := (unhide HKB) w5 (h4.trans (((below_new w4 o).trans (h5.mono (by simp))).mono h4.size))
        exact ⟨a1, a2, a3, (h5.block _ (by simp)).trans (heap_alloc_new w4 o)⟩)
      by_cases hp : 0 ≤ placeE es id
      · rw [if_pos hp]
        simp only [show ((1 : Int) = 0) = False from by decide, if_false]
        generalize placeE es id = pl at *
        clear ha h hk e0 hb0
        go_enter Try.func48, Try.ntmps48
        go_wp2_with (first | (go_at_call 34; refine (unhide HM).mono ?_; rintro e w1 ⟨rfl, rfl⟩) | (go_at_call 65; refine (unhide HN).mono ?_; rintro e w4 ⟨n, ao, mm, cc, rfl, hq, hb4⟩; obtain ⟨nk, nsp, nnm, nav, nda, nsy, npa, nfi, nla, npr, nne, nin, nat⟩ := n; obtain ⟨kb1, kb2, kb3⟩ := (unhide HKB) w4 hb4; have k0 : w4.cell? ⟨w.heap.size, 0, none⟩ = some (.int .i64 0) := (by simp [World.cell?, kb1]); have k1 : w4.cell? ⟨w.heap.size, 1, none⟩ = some (.string ⟨#[]⟩) := (by simp [World.cell?, kb1]); have f0 : w4.frozen? ⟨w.heap.size, 0, none⟩ = false := (by simp [World.frozen?, kb1]); have f1 : w4.frozen? ⟨w.heap.size, 1, none⟩ = false := (by simp [World.frozen?, kb1]); have kne : ¬ w.heap.size = w4.heap.size := (by omega); have kne2 : ¬ w4.heap.size = w.heap.size := (by omega); have klt : w.heap.size < w4.heap.size := (by omega); have HB1 := hide kb1; have HB2 := hide kb2; have HB3 := hide kb3; have HB4 := hide hb4; simp only [nodeV, NodeM.cells]; simp only [keyN, Key.mk.injEq] at hq; obtain ⟨rfl, rfl, rfl⟩ := hq; clear hb4 kb1 kb2 kb3) | (go_at_call 9; refine ((unhide HF) _ (by exact (unhide HB4).alloc (unhide HB4).size _)).mono ?_; rintro e w5 ⟨rfl, hb⟩; obtain ⟨x1, x2, x3, x4⟩ := (unhide HX5) _ _ _ (unhide HB4) hb; have m0 : w5.cell? ⟨w.heap.size, 0, none⟩ = some (.int .i64 0) := cell_of_row _ _ 0 _ _ _ x1; have m1 : w5.cell? ⟨w.heap.size, 1, none⟩ = some (.string ⟨#[]⟩) := cell_of_row _ _ 1 _ _ _ x1; have g0 : w5.frozen? ⟨w.heap.size, 0, none⟩ = false := free_row x1 0; have g1 : w5.frozen? ⟨w.heap.size, 1, none⟩ = false := free_row x1 1; have n1 : w5.cell? ⟨w4.heap.size, 1, none⟩ = some (.int .i64 nsp) := cell_of_row _ _ 1 _ _ _ x4; have n2 : w5.cell? ⟨w4.heap.size, 2, none⟩ = some (.string nnm) := cell_of_row _ _ 2 _ _ _ x4; have X1 := hide x1; have X2 := hide x2; have X3 := hide x3; clear x1 x2 x3 x4 hb))
        have R := fun c => (unhide HFIN2) w5 c (unhide X3) (unhide X2) (unhide X1)
        exact bodyPost_ret (v := .tuple #[kin0.agg, .int .i64 1]) (kin_ret _ w.heap.size kin0 (R kin0).1 _ _ rfl rfl) rfl ⟨rfl, (R kin0).2⟩
      · rw [if_neg hp]
        simp only [if_true]
        generalize placeE es id = pl at *
        clear ha h hk e0 hb0
        go_enter Try.func48, Try.ntmps48
        go_wp2_with (first | (go_at_call 34; refine (unhide HM).mono ?_; rintro e w1 ⟨rfl, rfl⟩) | (go_at_call 65; refine (unhide HN).mono ?_; rintro e w4 ⟨n, ao, mm, cc, rfl, hq, hb4⟩; obtain ⟨nk, nsp, nnm, nav, nda, nsy, npa, nfi, nla, npr, nne, nin, nat⟩ := n; obtain ⟨kb1, kb2, kb3⟩ := (unhide HKB) w4 hb4; have k0 : w4.cell? ⟨w.heap.size, 0, none⟩ = some (.int .i64 0) := (by simp [World.cell?, kb1]); have k1 : w4.cell? ⟨w.heap.size, 1, none⟩ = some (.string ⟨#[]⟩) := (by simp [World.cell?, kb1]); have f0 : w4.frozen? ⟨w.heap.size, 0, none⟩ = false := (by simp [World.frozen?, kb1]); have f1 : w4.frozen? ⟨w.heap.size, 1, none⟩ = false := (by simp [World.frozen?, kb1]); have kne : ¬ w.heap.size = w4.heap.size := (by omega); have kne2 : ¬ w4.heap.size = w.heap.size := (by omega); have klt : w.heap.size < w4.heap.size := (by omega); have HB1 := hide kb1; have HB2 := hide kb2; have HB3 := hide kb3; have HB4 := hide hb4; simp only [nodeV, NodeM.cells]; simp only [keyN, Key.mk.injEq] at hq; obtain ⟨rfl, rfl, rfl⟩ := hq; clear hb4 kb1 kb2 kb3) | (go_at_call 9; refine ((unhide HF) _ (by exact (unhide HB4).alloc (unhide HB4).size _)).mono ?_; rintro e w5 ⟨rfl, hb⟩; obtain ⟨x1, x2, x3, x4⟩ := (unhide HX5) _ _ _ (unhide HB4) hb; have m0 : w5.cell? ⟨w.heap.size, 0, none⟩ = some (.int .i64 0) := cell_of_row _ _ 0 _ _ _ x1; have m1 : w5.cell? ⟨w.heap.size, 1, none⟩ = some (.string ⟨#[]⟩) := cell_of_row _ _ 1 _ _ _ x1; have g0 : w5.frozen? ⟨w.heap.size, 0, none⟩ = false := free_row x1 0; have g1 : w5.frozen? ⟨w.heap.size, 1, none⟩ = false := free_row x1 1; have n1 : w5.cell? ⟨w4.heap.size, 1, none⟩ = some (.int .i64 nsp) := cell_of_row _ _ 1 _ _ _ x4; have n2 : w5.cell? ⟨w4.heap.size, 2, none⟩ = some (.string nnm) := cell_of_row _ _ 2 _ _ _ x4; have X1 := hide x1; have X2 := hide x2; have X3 := hide x3; clear x1 x2 x3 x4 hb))
        have R := fun c => (unhide HFIN2) w5 c (unhide X3) (unhide X2) (unhide X1)
        exact bodyPost_ret (v := .tuple #[KinM.agg ⟨_, _⟩, .int .i64 0]) (kin_ret _ w.heap.size ⟨_, _⟩ (R ⟨_, _⟩).1 _ _ rfl rfl) rfl ⟨rfl, (R ⟨_, _⟩).2⟩
    · rw [if_neg hq1] at e0
      rw [e0]
      simp only [Option.isSome_none, Bool.false_eq_true, if_false, show ((6 : Int) = 0) = False from by decide]
      have hq1' : (qk != 1) = true := by simpa using hq1
      clear ha h hk e0 hb0 hq1 hpl
      go_enter Try.func48, Try.ntmps48
      go_wp2_with (first | (go_at_call 34; refine (unhide HM).mono ?_; rintro e w1 ⟨rfl, rfl⟩) | (go_at_call 65; refine (unhide HN).mono ?_; rintro e w4 ⟨n, ao, mm, cc, rfl, hq, hb4⟩; obtain ⟨nk, nsp, nnm, nav, nda, nsy, npa, nfi, nla, npr, nne, nin, nat⟩ := n; obtain ⟨kb1, kb2, kb3⟩ := (unhide HKB) w4 hb4; have k0 : w4.cell? ⟨w.heap.size, 0, none⟩ = some (.int .i64 0) := (by simp [World.cell?, kb1]); have k1 : w4.cell? ⟨w.heap.size, 1, none⟩ = some (.string ⟨#[]⟩) := (by simp [World.cell?, kb1]); have f0 : w4.frozen? ⟨w.heap.size, 0, none⟩ = false := (by simp [World.frozen?, kb1]); have f1 : w4.frozen? ⟨w.heap.size, 1, none⟩ = false := (by simp [World.frozen?, kb1]); have kne : ¬ w.heap.size = w4.heap.size := (by omega); have kne2 : ¬ w4.heap.size = w.heap.size := (by omega); have klt : w.heap.size < w4.heap.size := (by omega); have HB1 := hide kb1; have HB2 := hide kb2; have HB3 := hide kb3; have HB4 := hide hb4; simp only [nodeV, NodeM.cells]; simp only [keyN, Key.mk.injEq] at hq; obtain ⟨rfl, rfl, rfl⟩ := hq; clear hb4 kb1 kb2 kb3))
      have R := fun c o => (unhide HFIN) w4 c o (unhide HB3) (unhide HB2) (unhide HB1)
      exact bodyPost_ret (v := .tuple #[kin0.agg, .int .i64 6]) (kin_ret _ w.heap.size kin0 (R kin0 _).1 _ _ rfl rfl) rfl ⟨rfl, (R kin0 _).2⟩
end
end Go.Proofs.Ytabdgmcajndgbaa
