/-
  WriteNested's walk.
-/
import Derived.Test.YtfcagiacjpcpeaaVm
import Derived.Test.YtfcagiacjpcpeaaVo
namespace Go.Proofs.Ytfcagiacjpcpeaa
open Go.RowKit Go.Lib

def nmAt (x : Int) : ByteArray := (nmB[x.toNat % 4]?).getD ⟨#[]⟩
theorem nmAt_mem (x : Int) : nmAt x ∈ nmB := by
  unfold nmAt
  have h : x.toNat % 4 < 4 := Nat.mod_lt _ (by omega)
  generalize x.toNat % 4 = m at h
  match m, h with
  | 0, _ => simp [nmB]
  | 1, _ => simp [nmB]
  | 2, _ => simp [nmB]
  | 3, _ => simp [nmB]
theorem openL_len (ns : List ByteArray) (h : ∀ x ∈ ns, NmOk x) : (openL ns).length ≤ 6 * ns.length := by
  induction ns with
  | nil => simp [openL]
  | cons n r ih =>
    have h1 := ih (fun x hx => h x (by simp [hx]))
    have h2 := (h n (by simp)).z
    have h3 := cat3_len ⟨#[60]⟩ n gtB
    have k1 : (⟨#[60]⟩ : ByteArray).size = 1 := rfl
    have k2 : gtB.size = 1 := rfl
    unfold openL at *
    simp only [List.flatMap_cons, List.length_append, List.length_cons]
    omega
theorem shutL_len (ns : List ByteArray) (h : ∀ x ∈ ns, NmOk x) : (shutL ns).length ≤ 6 * ns.length := by
  induction ns with
  | nil => simp [shutL]
  | cons n r ih =>
    have h1 := ih (fun x hx => h x (by simp [hx]))
    have h2 := (h n (by simp)).z
    have h3 := cat3_len endB n gtB
    have k1 : endB.size = 2 := rfl
    have k2 : gtB.size = 1 := rfl
    simp only [shutL, List.length_append, List.length_cons]
    omega

/-- The arena while it is made, the names beside it. -/
def StN (w wx : World) (bA bl : Nat) (os : List OneM) : Prop :=
  Below w.heap.size w wx ∧ wx.heap[bl]? = some (.cells (sRow nmB) 9 (0, 0)) ∧ ∃ nds F, ArS wx w.heap.size bA nds F ∧ Sim nds os ∧ ¬ F bl
theorem StN.step {w wx w' : World} {bA bl : Nat} {os' : List OneM} {nds : List NodeM} {F : Nat → Prop} (hb : Below w.heap.size w wx) (hl : wx.heap[bl]? = some (.cells (sRow nmB) 9 (0, 0))) (ha : ArS wx w.heap.size bA nds F) (hn : ¬ F bl) (hu : USim F wx w' w.heap.size bA os') : StN w w' bA bl os' := by
  obtain ⟨ms, ⟨F', h1, h2, h3⟩, h4⟩ := hu
  have hlt := lt_of_block hl
  refine ⟨hb.trans (h2.below hb.size (fun k hk => (ha.lt hk).1)), (h2.block bl hlt hn).trans hl, ms, F', h1, h4, fun hk => ?_⟩
  rcases h3 bl hk with h5 | h5
  · exact hn h5
  · omega
theorem StN.elem {w wx : World} {bA bl : Nat} {os : List OneM} (h : StN w wx bA bl os) (nm : ByteArray) (hn : NmOk nm) (hf : os.length + 1 ≤ 32768) :
    Calls Try.prog 21 #[.pointer (some ⟨bA, 0, none⟩), .int .i64 0, .string nm, .slice none 0 0] wx fun e w' => e = .returned (.tuple #[.int .i64 (os.length : Int), .int .i64 0]) ∧ StN w w' bA bl (os ++ [elemQ 0 nm []]) := by
  obtain ⟨hb, hl, nds, F, ha, hs, hnl⟩ := h
  have e : elemO os 0 nm [] = (os ++ [elemQ 0 nm []], (os.length : Int), 0) := by
    unfold elemO addO
    rw [if_neg (by omega), hn.long]
    simp [hn.t, hf]
  have hc := element_sim ha hs 0 nm none 0 [] ⟨fun i x hi => by simp at hi⟩ (by simp)
  rw [e] at hc
  exact hc.mono fun e w' ⟨h1, h2⟩ => ⟨h1, StN.step hb hl ha hnl h2⟩
theorem StN.text {w wx : World} {bA bl : Nat} {os : List OneM} (h : StN w wx bA bl os) (s : ByteArray) (hs : s.size ≤ 10000) (hf : os.length + 1 ≤ 32768) :
    Calls Try.prog 23 #[.pointer (some ⟨bA, 0, none⟩), .string s] wx fun e w' => e = .returned (.tuple #[.int .i64 (os.length : Int), .int .i64 0]) ∧ StN w w' bA bl (os ++ [dataQ 2 s]) := by
  obtain ⟨hb, hl, nds, F, ha, hsm, hnl⟩ := h
  have e : dataO os 2 s = (os ++ [dataQ 2 s], (os.length : Int), 0) := by
    unfold dataO addO longS
    rw [if_neg (by simp; omega), if_pos hf]
  have hc := text_sim ha hsm s
  rw [e] at hc
  exact hc.mono fun e w' ⟨h1, h2⟩ => ⟨h1, StN.step hb hl ha hnl h2⟩
theorem StN.link {w wx : World} {bA bl : Nat} {os : List OneM} (h : StN w wx bA bl os) (p c : Int) :
    Calls Try.prog 22 #[.pointer (some ⟨bA, 0, none⟩), .int .i64 p, .int .i64 c, .int .i64 (-1)] wx fun e w' => (∃ r : Int, e = .returned (.int .i64 r)) ∧ StN w w' bA bl (linkR os p c (-1)) := by
  obtain ⟨hb, hl, nds, F, ha, hsm, hnl⟩ := h
  exact (link_sim ha hsm p c (-1)).mono fun e w' ⟨h1, h2⟩ => ⟨⟨_, h1⟩, StN.step hb hl ha hnl h2⟩

set_option maxHeartbeats 4000000 in
set_option maxRecDepth 10000 in
theorem nested_walk (l : List Int) (a : Option Addr) (cap : Nat) (s : ByteArray) (w : World) (hin : BytIn w a l) (hl : l.length ≤ 140737488351232) :
    Calls Try.prog 8 #[.slice a l.length cap, .string s] w fun e w' => e = .returned (.bool true) ∧ Below w.heap.size w w' := by
  have HIN := hidE hin
  have hlz : (l.length : Int) ≤ 140737488355328 := by omega
  have HNEW := hidE (new_any w w.heap.size (Nat.le_refl _))
  clear hin hl
  by_cases hs : s.size ≤ 10000
  · have hsz : ¬ (10000 : Int) < (s.size : Int) := by omega
    have HS := hidE hs
    clear hs
    go_enter Try.func8, Try.ntmps8
    go_wp2_with (go_at_call 20; refine (unhidE HNEW).mono ?_; rintro e w1 ⟨F, rfl, ha1, hb1, hF1⟩; have HA1 := hidE ha1; have HB1 := hidE hb1; have HF1 := hidE hF1; clear ha1 hb1 hF1)
    have hst : StN w (w1.alloc (.cells #[.string ⟨#[100, 105, 118]⟩, .string ⟨#[112]⟩, .string ⟨#[98]⟩, .string ⟨#[120]⟩] 9)) (w.heap.size + 3) w1.heap.size [oneM 0] := by
      have hb1 := unhidE HB1
      have ha1 := unhidE HA1
      have hb2 : Below w1.heap.size w1 (w1.alloc (.cells #[.string ⟨#[100, 105, 118]⟩, .string ⟨#[112]⟩, .string ⟨#[98]⟩, .string ⟨#[120]⟩] 9)) := below_new w1 _
      refine ⟨hb1.trans (hb2.mono hb1.size), heap_alloc_new w1 _, [blankM 0], F, ha1.mod (Mod.of_below hb2) (fun _ _ e => e), Sim.new, fun hk => ?_⟩
      have := (ha1.lt hk).2
      omega
    generalize w1.alloc (.cells #[.string ⟨#[100, 105, 118]⟩, .string ⟨#[112]⟩, .string ⟨#[98]⟩, .string ⟨#[120]⟩] 9) = w2 at hst
    have HST := hidE hst
    clear hst HB1 HA1 HF1
    obtain ⟨bl, hbl⟩ : ∃ b, w1.heap.size = b := ⟨_, rfl⟩
    obtain ⟨bA, hbA⟩ : ∃ b, w.heap.size + 3 = b := ⟨_, rfl⟩
    rw [hbl, hbA] at HST
    rw [hbl, hbA]
    clear hbl hbA
    go_loopg [7, 8, 9, 10, 11, 12, 13] l.length (fun k s7 s8 s9 s10 _ _ _ wx => ∃ (i : Nat) (ns : List ByteArray) (os : List OneM) (ob sb : ByteArray), s10 = .int .i64 i ∧ i + k = l.length ∧ i ≤ 100 ∧ ns.length = i ∧ (∀ x ∈ ns, NmOk x) ∧ s7 = .int .i64 i ∧ s8 = .string ob ∧ ob.data.toList = openL ns ∧ s9 = .string sb ∧ sb.data.toList = shutL ns ∧ Chain os ns ∧ StN w wx bA bl os)
    case atStart => exact ⟨0, [], [oneM 0], ⟨#[]⟩, ⟨#[]⟩, rfl, by omega, by omega, rfl, fun x hx => by simp at hx, rfl, rfl, rfl, rfl, rfl, Chain.new, unhidE HST⟩
    case round =>
      obtain ⟨i, ns, os, ob, sb, rfl, hik, hi100, hni, hok, rfl, rfl, hob, rfl, hsb, hch, hst⟩ := hrel
      by_cases hi : i < l.length ∧ i < 100
      · obtain ⟨hi1, hi2⟩ := hi
        have hiz : (i : Int) < (l.length : Int) := by omega
        have hiz2 : (i : Int) < 100 := by omega
        obtain ⟨x, hx⟩ : ∃ x, l[i]? = some x := ⟨_, List.getElem?_eq_getElem hi1⟩
        obtain ⟨b, off, rfl, cx⟩ := ((unhidE HIN).below hst.1).cells i x hx
        obtain ⟨hx0, hx1⟩ := (unhidE HIN).fit x (List.mem_of_getElem? hx)
        obtain ⟨q, hq, hq4⟩ : ∃ q : Nat, Int.tmod x 4 = (q : Int) ∧ q < 4 := ⟨(Int.tmod x 4).toNat, by rw [Int.tmod_eq_emod_of_nonneg hx0]; omega, by rw [Int.tmod_eq_emod_of_nonneg hx0]; omega⟩
        obtain ⟨nm, hnm⟩ : ∃ nm, nmB[q]? = some nm := ⟨_, List.getElem?_eq_getElem (by exact hq4)⟩
        have hnok := nm_ok (List.mem_of_getElem? hnm)
        have cn : wr.cell? ⟨bl, q, none⟩ = some (.string nm) := by
          rw [cell_row _ bl q _ _ _ hst.2.1]
          simp [sRow, hnm]
        have hq4z : (q : Int) < 4 := by omega
        have hol := hch.len
        have HE := hidE (hst.elem nm hnok (by omega))
        have HCH := hidE hch
        have HOK := hidE hok
        have HNK := hidE hnok
        have HOB := hidE hob
        have HSB := hidE hsb
        have hoi : (os.length : Int) = (i : Int) + 1 := by omega
        rw [hoi] at HE
        have hobz : ob.size ≤ 600 := by rw [← len_data, hob]; have := openL_len ns hok; omega
        have hsbz : sb.size ≤ 600 := by rw [← len_data, hsb]; have := shutL_len ns hok; omega
        have hnmz := hnok.z
        have hobz2 : (ob.size : Int) ≤ 600 := by omega
        have hsbz2 : (sb.size : Int) ≤ 600 := by omega
        have hnmz2 : (nm.size : Int) ≤ 3 := by omega
        clear hch hok hnok hob hsb hst hx hnm
        go_wp2_with (first
          | (go_at_call 21; refine (unhidE HE).mono ?_; rintro e w3 ⟨rfl, hst3⟩; have HL := hidE (hst3.link (i : Int) ((i : Int) + 1)); clear hst3)
          | (go_at_call 22; refine (unhidE HL).mono ?_; rintro e w4 ⟨⟨rr, rfl⟩, hst4⟩; have HST4 := hidE hst4; clear hst4))
        go_roundg (gk - 1)
        case measure => omega
        case rel =>
          have hcs := chain_step (unhidE HCH) nm
          rw [hni, hoi] at hcs
          refine ⟨i + 1, ns ++ [nm], _, _, _, by go_num, by omega, by omega, by simp [hni], fun y hy => ?_, by push_cast; rfl, rfl, ?_, rfl, ?_, hcs, unhidE HST4⟩
          · rcases List.mem_append.1 hy with h | h
            · exact (unhidE HOK) y h
            · have : y = nm := by simpa using h
              rw [this]; exact unhidE HNK
          · rw [open_last]; simp [ByteArray.data_append, unhidE HOB, catL, gtB]
          · rw [shut_last]; simp [ByteArray.data_append, unhidE HSB, catL, gtB, endB]
      · have HE := hidE (hst.text s (unhidE HS) (by have := hch.len; omega))
        have hoi : (os.length : Int) = (i : Int) + 1 := by have := hch.len; omega
        rw [hoi] at HE
        have hobz : ob.size ≤ 600 := by rw [← len_data, hob]; have := openL_len ns hok; omega
        have hsbz : sb.size ≤ 600 := by rw [← len_data, hsb]; have := shutL_len ns hok; omega
        have hobz2 : (ob.size : Int) ≤ 600 := by omega
        have hsbz2 : (sb.size : Int) ≤ 600 := by omega
        have hel := esc_len false _ s.data.toList (Nat.le_refl _)
        rw [len_data] at hel
        have hed : (escS false s).data.toList = escL false s.data.toList := by unfold escS; simp
        have hez : (escS false s).size ≤ 60000 := by rw [← len_data, hed]; have := unhidE HS; omega
        have HES := hidE (fun W => escapeP_any s false W (by have := unhidE HS; omega))
        have HIN2 : Hid (∀ W, StN w W bA bl (linkR (os ++ [dataQ 2 s]) (i : Int) ((i : Int) + 1) (-1)) → Calls Try.prog 10 #[.pointer (some ⟨bA, 0, none⟩), .int .i64 0, .bool true] W fun e w' => (∃ tb : ByteArray, e = .returned (.tuple #[.string tb, .int .i64 0]) ∧ tb.data.toList = ob.data.toList ++ escL false s.data.toList ++ sb.data.toList) ∧ Below W.heap.size W w') := hidE (fun W hW => by
          have hct := chain_text hch s
          rw [hni, hoi] at hct
          obtain ⟨_, _, nds, F', ha, hsm, _⟩ := hW
          generalize linkR (os ++ [dataQ 2 s]) (i : Int) ((i : Int) + 1) (-1) = osf at hct hsm
          obtain ⟨o0, ho0, _⟩ := hct.kid (Nat.zero_le _)
          have hcl := hct.len
          have hco := nest_cost hct hok (unhidE HS) (osf.length + 1) 0
          have hio := nest_in hct hok (osf.length + 1) 0 (Nat.zero_le _) (by omega)
          refine (inner_in ha hsm ho0 true (by rw [hcl, hni] at hco ⊢; omega)).mono ?_
          rintro e w' ⟨rfl, hb'⟩
          refine ⟨⟨_, rfl, ?_⟩, hb'⟩
          rw [hio, List.drop_zero, nest_eq, hob, hsb])
        have hez2 : ((escS false s).size : Int) ≤ 60000 := by omega
        generalize escS false s = es at hed hez hez2 HES
        have HED := hidE hed
        clear hch hok hob hsb hst hel hed
        have fin : (i < l.length ∧ i = 100) ∨ ¬ i < l.length := by omega
        rcases fin with ⟨f1, f2⟩ | f1
        · have hiz : (i : Int) < (l.length : Int) := by omega
          have hiz2 : ¬ (i : Int) < 100 := by omega
          clear f1 f2
          go_wp2_with (first
            | (go_at_call 23; refine (unhidE HE).mono ?_; rintro e w3 ⟨rfl, hst3⟩; have HL := hidE (hst3.link (i : Int) ((i : Int) + 1)); clear hst3)
            | (go_at_call 22; refine (unhidE HL).mono ?_; rintro e w4 ⟨⟨rr, rfl⟩, hst4⟩; have HB4 := hidE hst4.1; have HI4 := hidE ((unhidE HIN2) _ hst4); clear hst4)
            | (go_at_call 10; refine (unhidE HI4).mono ?_; rintro e w5 ⟨⟨tb, rfl, htb⟩, hb5⟩; have heq : (tb.toList == (ob ++ es ++ sb).toList) = true := (by rw [beq_iff_eq, toList_data, toList_data, htb]; simp [ByteArray.data_append, unhidE HED]); have HB5 := hidE ((unhidE HB4).trans (hb5.mono (unhidE HB4).size)); clear hb5 htb)
            | (go_at_call 17; refine ((unhidE HES) _).mono ?_; rintro e w6 ⟨rfl, hb6⟩; have HB6 := hidE ((unhidE HB5).trans (hb6.mono (unhidE HB5).size)); clear hb6)
            | (go_at_call 12; refine (awake_any _).mono ?_; rintro e w7 ⟨rfl, hb7⟩; have HB7 := hidE ((unhidE HB6).trans (hb7.mono (unhidE HB6).size)); clear hb7))
          go_ret
          exact ⟨rfl, unhidE HB7⟩
        · have hiz : ¬ (i : Int) < (l.length : Int) := by omega
          clear f1
          go_wp2_with (first
            | (go_at_call 23; refine (unhidE HE).mono ?_; rintro e w3 ⟨rfl, hst3⟩; have HL := hidE (hst3.link (i : Int) ((i : Int) + 1)); clear hst3)
            | (go_at_call 22; refine (unhidE HL).mono ?_; rintro e w4 ⟨⟨rr, rfl⟩, hst4⟩; have HB4 := hidE hst4.1; have HI4 := hidE ((unhidE HIN2) _ hst4); clear hst4)
            | (go_at_call 10; refine (unhidE HI4).mono ?_; rintro e w5 ⟨⟨tb, rfl, htb⟩, hb5⟩; have heq : (tb.toList == (ob ++ es ++ sb).toList) = true := (by rw [beq_iff_eq, toList_data, toList_data, htb]; simp [ByteArray.data_append, unhidE HED]); have HB5 := hidE ((unhidE HB4).trans (hb5.mono (unhidE HB4).size)); clear hb5 htb)
            | (go_at_call 17; refine ((unhidE HES) _).mono ?_; rintro e w6 ⟨rfl, hb6⟩; have HB6 := hidE ((unhidE HB5).trans (hb6.mono (unhidE HB5).size)); clear hb6)
            | (go_at_call 12; refine (awake_any _).mono ?_; rintro e w7 ⟨rfl, hb7⟩; have HB7 := hidE ((unhidE HB6).trans (hb7.mono (unhidE HB6).size)); clear hb7))
          go_ret
          exact ⟨rfl, unhidE HB7⟩
  · have hsz : (10000 : Int) < (s.size : Int) := by omega
    clear hs
    go_enter Try.func8, Try.ntmps8
    go_wp2_with (go_at_call 20; refine (unhidE HNEW).mono ?_; rintro e w1 ⟨F, rfl, ha1, hb1, hF1⟩; have HB1 := hidE hb1; clear ha1 hb1 hF1)
    go_ret
    exact ⟨rfl, unhidE HB1⟩
end Go.Proofs.Ytfcagiacjpcpeaa
