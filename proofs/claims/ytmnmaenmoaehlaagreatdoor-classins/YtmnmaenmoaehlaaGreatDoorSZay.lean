/-
  The document's code points as bytes. What is plain, by the document.
-/
import Derived.Test.YtmnmaenmoaehlaaGreatDoorSZax
namespace Go.Proofs.YtmnmaenmoaehlaaGreatDoor
open Go.RowKit Go.Lib

def RunesAt (w : World) (a : Option Addr) (rs : List Nat) : Prop := ∀ (i : Nat) r, rs[i]? = some r → ∃ b off, a = some ⟨b, off, none⟩ ∧ w.cell? ⟨b, off + i, none⟩ = some (.int .i32 (r : Int))
theorem RunesAt.below {w w' : World} {a : Option Addr} {l : List Nat} (h : RunesAt w a l) (hb : Below w.heap.size w w') : RunesAt w' a l := by
  intro i c hi
  obtain ⟨b, off, e, c0⟩ := h i c hi
  exact ⟨b, off, e, (hb.cell (p := ⟨b, off + i, none⟩) (World.block_lt_of_cell? w _ c0)).trans c0⟩

theorem byteCells_app (a b : List UInt8) : byteCells (a ++ b) = byteCells a ++ byteCells b := by simp [byteCells]
theorem push_bytes {w wr w2 : World} {rs : List Nat} {i r : Nat} {z : Int} (hz : z = (r : Int)) (hx : rs[i]? = some r) {v v' : Value}
    (hown : wr.ownsRow w.heap.size 5 1 v (bytesM (rs.take i)).length (byteCells (bytesM (rs.take i)))) (hbel : Below w.heap.size w wr) {C : Obj} {k : Nat} {news : List Value} (hn : news = runeCells z) (hk : k = news.length)
    (ho : w2.ownsRow w.heap.size 5 1 v' ((bytesM (rs.take i)).length + k) (byteCells (bytesM (rs.take i)) ++ news)) (hg : (wr.alloc C).grownBy w2 v.ownBlock) :
    w2.ownsRow w.heap.size 5 1 v' (bytesM (rs.take (i + 1))).length (byteCells (bytesM (rs.take (i + 1)))) ∧ Below w.heap.size w w2 := by
  have ht : bytesM (rs.take (i + 1)) = bytesM (rs.take i) ++ encodeRune (r : Int) := by
    rw [List.take_add_one, hx]
    unfold bytesM
    rw [List.flatMap_append]
    simp
  refine ⟨?_, ⟨hg.os.trans hbel.os, hg.tape.trans hbel.tape, hg.output.trans hbel.output, ?_, fun q hq => ?_⟩⟩
  · subst hz
    rw [ht, List.length_append, byteCells_app, byteCells_encodeRune, ← hn, show (encodeRune (r : Int)).length = k by rw [hk, hn, runeCells_length]]
    exact ho
  · have h1 := hg.size
    have h2 := hbel.size
    simp at h1
    omega
  · have h2 := hbel.size
    rw [hg.block q (by simp; omega) (fun e => by have := (hown.lt q e.symm).1; omega), Below.heap_alloc _ _ _ (by omega)]
    exact hbel.block q hq
theorem bytes_len (rs : List Nat) : (bytesM rs).length ≤ 4 * rs.length := by
  induction rs with
  | nil => simp [bytesM]
  | cons r t ih =>
    have h := (runeCells_le (r : Int)).2
    rw [runeCells_length] at h
    have : bytesM (r :: t) = encodeRune (r : Int) ++ bytesM t := by simp [bytesM]
    rw [this, List.length_append, List.length_cons]
    omega
theorem cells_news (W : World) (news : List Value) : ∀ (j : Nat) u, news[j]? = some u → (W.alloc (.cells news.toArray 5)).cell? ((⟨W.heap.size, 0, none⟩ : Addr).add j) = some u := by
  intro j u hj
  have ad : (⟨W.heap.size, 0, none⟩ : Addr).add j = ⟨W.heap.size, j, none⟩ := by unfold Addr.add; split <;> simp_all
  rw [ad, cell_row _ _ _ _ _ _ (heap_alloc_new W _)]
  simpa using hj

set_option maxHeartbeats 8000000 in
set_option maxRecDepth 100000 in
theorem dbytes_any (w : World) (a : Option Addr) (cap : Nat) (rs : List Nat) (hb : RunesAt w a rs) (hr : ∀ r ∈ rs, r ≤ 1114111) (hlen : rs.length ≤ 1000000000) :
    Calls Tryz.prog 86 #[.slice a rs.length cap] w fun e w' => ∃ v, e = .returned v ∧ w'.ownsRow w.heap.size 5 1 v (bytesM rs).length (byteCells (bytesM rs)) ∧ Below w.heap.size w w' := by
  obtain ⟨ti, hi0, hz0, hz1, hz2⟩ := info_parts Tryz.infoByte
  have HI : Hid (w.ownsRow w.heap.size 5 1 (.slice none 0 0) 0 []) := hide (World.ownsRow_nil _ _ _ _)
  have HR := hide hr
  have HBA := hide hb
  clear hr hb
  go_enter Tryz.func86, Tryz.ntmps86
  go_wp2
  go_loopg [3, 4] rs.length (fun g v3 v4 wx => ∃ i : Nat, i + g = rs.length ∧ v4 = .int .i64 i ∧ wx.ownsRow w.heap.size 5 1 v3 (bytesM (rs.take i)).length (byteCells (bytesM (rs.take i))) ∧ Below w.heap.size w wx)
  case atStart => exact ⟨0, by omega, rfl, unhide HI, Below.refl _ _⟩
  case round =>
    obtain ⟨i, hig, rfl, hown, hbel⟩ := hrel
    by_cases hi : i < rs.length
    · have hiz : (i : Int) < (rs.length : Int) := by omega
      obtain ⟨r, hx⟩ : ∃ r, rs[i]? = some r := ⟨_, List.getElem?_eq_getElem hi⟩
      have hrm := (unhide HR) r (List.mem_of_getElem? hx)
      obtain ⟨b, off, rfl, c0⟩ := ((unhide HBA).below hbel) i r hx
      obtain ⟨z, hz⟩ : ∃ z : Int, z = (r : Int) := ⟨_, rfl⟩
      rw [← hz] at c0
      have h0 : 0 ≤ z := by omega
      have hmx : z ≤ 1114111 := by omega
      have HZ := hide hz
      have HX := hide hx
      have HOWN := hide hown
      have HBEL := hide hbel
      clear hz hrm hx hown hbel
      have hbl := bytes_len (rs.take i)
      have htl : (rs.take i).length ≤ 1000000000 := by rw [List.length_take]; omega
      by_cases h1 : z < 128
      · have h5 : z < 55296 := by omega
        have HE : Hid ([.int .u8 z] = runeCells z) := hide (by unfold runeCells encodeRuneZ; rw [if_pos (by omega)]; rfl)
        have HO1 := hide ((unhide HOWN).alloc (.cells ([.int .u8 z] : List Value).toArray 5))
        have HNW := hide (cells_news wr [.int .u8 z])
        have h63 : (bytesM (rs.take i)).length + 1 ≤ maxLen := by unfold maxLen; omega
        have hbyt : ((bytesM (rs.take i)).length + 1) * 1 ≤ 140737488355328 := by omega
        have hbase : w.heap.size ≤ (wr.alloc (.cells ([.int .u8 z] : List Value).toArray 5)).heap.size := by have := (unhide HBEL).size; simp; omega
        go_wp2_with (at_builtin; refine wpList_append_own _ rfl _ _ 101 rfl w.heap.size 5 ti _ 1 1 Tryz.underlying101 hi0 hz0 hz1 hz2 rfl (by omega) u3 (bytesM (rs.take i)).length (byteCells (bytesM (rs.take i))) rfl (unhide HO1) ⟨wr.heap.size, 0, none⟩ 1 1 [.int .u8 z] rfl rfl (unhide HNW) (by intro u hu; simp at hu; subst hu; rfl) h63 hbyt hbase ?_; intro v' w2 ho2 hg2 _; have HD := hide (push_bytes (unhide HZ) (unhide HX) (unhide HOWN) (unhide HBEL) (unhide HE) rfl ho2 hg2); clear ho2 hg2)
        go_roundg (gk - 1)
        case measure => omega
        case rel => exact ⟨i + 1, by omega, by go_num, (unhide HD).1, (unhide HD).2⟩
      by_cases h2 : z < 2048
      · have h5 : z < 55296 := by omega
        have HE : Hid ([.int .u8 (192 + z / 64), .int .u8 (128 + z % 64)] = runeCells z) := hide (by unfold runeCells encodeRuneZ; rw [if_neg (by omega), if_pos (by omega)]; rfl)
        have HO1 := hide ((unhide HOWN).alloc (.cells ([.int .u8 (192 + z / 64), .int .u8 (128 + z % 64)] : List Value).toArray 5))
        have HNW := hide (cells_news wr [.int .u8 (192 + z / 64), .int .u8 (128 + z % 64)])
        have h63 : (bytesM (rs.take i)).length + 2 ≤ maxLen := by unfold maxLen; omega
        have hbyt : ((bytesM (rs.take i)).length + 2) * 1 ≤ 140737488355328 := by omega
        have hbase : w.heap.size ≤ (wr.alloc (.cells ([.int .u8 (192 + z / 64), .int .u8 (128 + z % 64)] : List Value).toArray 5)).heap.size := by have := (unhide HBEL).size; simp; omega
        go_wp2_with (at_builtin; refine wpList_append_own _ rfl _ _ 101 rfl w.heap.size 5 ti _ 1 1 Tryz.underlying101 hi0 hz0 hz1 hz2 rfl (by omega) u3 (bytesM (rs.take i)).length (byteCells (bytesM (rs.take i))) rfl (unhide HO1) ⟨wr.heap.size, 0, none⟩ 2 2 [.int .u8 (192 + z / 64), .int .u8 (128 + z % 64)] rfl rfl (unhide HNW) (by intro u hu; simp at hu; rcases hu with rfl | rfl <;> rfl) h63 hbyt hbase ?_; intro v' w2 ho2 hg2 _; have HD := hide (push_bytes (unhide HZ) (unhide HX) (unhide HOWN) (unhide HBEL) (unhide HE) rfl ho2 hg2); clear ho2 hg2)
        go_roundg (gk - 1)
        case measure => omega
        case rel => exact ⟨i + 1, by omega, by go_num, (unhide HD).1, (unhide HD).2⟩
      by_cases h3 : z < 55296
      · have h6 : z < 65536 := by omega
        have HE : Hid ([.int .u8 (224 + z / 4096), .int .u8 (128 + z / 64 % 64), .int .u8 (128 + z % 64)] = runeCells z) := hide (by unfold runeCells encodeRuneZ; rw [if_neg (by omega), if_neg (by omega), if_pos (by omega)]; rfl)
        have HO1 := hide ((unhide HOWN).alloc (.cells ([.int .u8 (224 + z / 4096), .int .u8 (128 + z / 64 % 64), .int .u8 (128 + z % 64)] : List Value).toArray 5))
        have HNW := hide (cells_news wr [.int .u8 (224 + z / 4096), .int .u8 (128 + z / 64 % 64), .int .u8 (128 + z % 64)])
        have h63 : (bytesM (rs.take i)).length + 3 ≤ maxLen := by unfold maxLen; omega
        have hbyt : ((bytesM (rs.take i)).length + 3) * 1 ≤ 140737488355328 := by omega
        have hbase : w.heap.size ≤ (wr.alloc (.cells ([.int .u8 (224 + z / 4096), .int .u8 (128 + z / 64 % 64), .int .u8 (128 + z % 64)] : List Value).toArray 5)).heap.size := by have := (unhide HBEL).size; simp; omega
        go_wp2_with (at_builtin; refine wpList_append_own _ rfl _ _ 101 rfl w.heap.size 5 ti _ 1 1 Tryz.underlying101 hi0 hz0 hz1 hz2 rfl (by omega) u3 (bytesM (rs.take i)).length (byteCells (bytesM (rs.take i))) rfl (unhide HO1) ⟨wr.heap.size, 0, none⟩ 3 3 [.int .u8 (224 + z / 4096), .int .u8 (128 + z / 64 % 64), .int .u8 (128 + z % 64)] rfl rfl (unhide HNW) (by intro u hu; simp at hu; rcases hu with rfl | rfl | rfl <;> rfl) h63 hbyt hbase ?_; intro v' w2 ho2 hg2 _; have HD := hide (push_bytes (unhide HZ) (unhide HX) (unhide HOWN) (unhide HBEL) (unhide HE) rfl ho2 hg2); clear ho2 hg2)
        go_roundg (gk - 1)
        case measure => omega
        case rel => exact ⟨i + 1, by omega, by go_num, (unhide HD).1, (unhide HD).2⟩
      by_cases h4 : z ≤ 57343
      · have h6 : 55296 ≤ z := by omega
        have HE : Hid ([.int .u8 239, .int .u8 191, .int .u8 189] = runeCells z) := hide (by unfold runeCells encodeRuneZ; rw [if_neg (by omega), if_neg (by omega), if_neg (by omega), if_neg (by omega)]; rfl)
        have HO1 := hide ((unhide HOWN).alloc (.cells ([.int .u8 239, .int .u8 191, .int .u8 189] : List Value).toArray 5))
        have HNW := hide (cells_news wr [.int .u8 239, .int .u8 191, .int .u8 189])
        have h63 : (bytesM (rs.take i)).length + 3 ≤ maxLen := by unfold maxLen; omega
        have hbyt : ((bytesM (rs.take i)).length + 3) * 1 ≤ 140737488355328 := by omega
        have hbase : w.heap.size ≤ (wr.alloc (.cells ([.int .u8 239, .int .u8 191, .int .u8 189] : List Value).toArray 5)).heap.size := by have := (unhide HBEL).size; simp; omega
        go_wp2_with (at_builtin; refine wpList_append_own _ rfl _ _ 101 rfl w.heap.size 5 ti _ 1 1 Tryz.underlying101 hi0 hz0 hz1 hz2 rfl (by omega) u3 (bytesM (rs.take i)).length (byteCells (bytesM (rs.take i))) rfl (unhide HO1) ⟨wr.heap.size, 0, none⟩ 3 3 [.int .u8 239, .int .u8 191, .int .u8 189] rfl rfl (unhide HNW) (by intro u hu; simp at hu; rcases hu with rfl | rfl | rfl <;> rfl) h63 hbyt hbase ?_; intro v' w2 ho2 hg2 _; have HD := hide (push_bytes (unhide HZ) (unhide HX) (unhide HOWN) (unhide HBEL) (unhide HE) rfl ho2 hg2); clear ho2 hg2)
        go_roundg (gk - 1)
        case measure => omega
        case rel => exact ⟨i + 1, by omega, by go_num, (unhide HD).1, (unhide HD).2⟩
      by_cases h7 : z < 65536
      · have h6 : 55296 ≤ z := by omega
        have HE : Hid ([.int .u8 (224 + z / 4096), .int .u8 (128 + z / 64 % 64), .int .u8 (128 + z % 64)] = runeCells z) := hide (by unfold runeCells encodeRuneZ; rw [if_neg (by omega), if_neg (by omega), if_pos (by omega)]; rfl)
        have HO1 := hide ((unhide HOWN).alloc (.cells ([.int .u8 (224 + z / 4096), .int .u8 (128 + z / 64 % 64), .int .u8 (128 + z % 64)] : List Value).toArray 5))
        have HNW := hide (cells_news wr [.int .u8 (224 + z / 4096), .int .u8 (128 + z / 64 % 64), .int .u8 (128 + z % 64)])
        have h63 : (bytesM (rs.take i)).length + 3 ≤ maxLen := by unfold maxLen; omega
        have hbyt : ((bytesM (rs.take i)).length + 3) * 1 ≤ 140737488355328 := by omega
        have hbase : w.heap.size ≤ (wr.alloc (.cells ([.int .u8 (224 + z / 4096), .int .u8 (128 + z / 64 % 64), .int .u8 (128 + z % 64)] : List Value).toArray 5)).heap.size := by have := (unhide HBEL).size; simp; omega
        go_wp2_with (at_builtin; refine wpList_append_own _ rfl _ _ 101 rfl w.heap.size 5 ti _ 1 1 Tryz.underlying101 hi0 hz0 hz1 hz2 rfl (by omega) u3 (bytesM (rs.take i)).length (byteCells (bytesM (rs.take i))) rfl (unhide HO1) ⟨wr.heap.size, 0, none⟩ 3 3 [.int .u8 (224 + z / 4096), .int .u8 (128 + z / 64 % 64), .int .u8 (128 + z % 64)] rfl rfl (unhide HNW) (by intro u hu; simp at hu; rcases hu with rfl | rfl | rfl <;> rfl) h63 hbyt hbase ?_; intro v' w2 ho2 hg2 _; have HD := hide (push_bytes (unhide HZ) (unhide HX) (unhide HOWN) (unhide HBEL) (unhide HE) rfl ho2 hg2); clear ho2 hg2)
        go_roundg (gk - 1)
        case measure => omega
        case rel => exact ⟨i + 1, by omega, by go_num, (unhide HD).1, (unhide HD).2⟩
      have h6 : 55296 ≤ z := by omega
      have HE : Hid ([.int .u8 (240 + z / 262144), .int .u8 (128 + z / 4096 % 64), .int .u8 (128 + z / 64 % 64), .int .u8 (128 + z % 64)] = runeCells z) := hide (by unfold runeCells encodeRuneZ; rw [if_neg (by omega), if_neg (by omega), if_neg (by omega), if_pos (by omega)]; rfl)
      have HO1 := hide ((unhide HOWN).alloc (.cells ([.int .u8 (240 + z / 262144), .int .u8 (128 + z / 4096 % 64), .int .u8 (128 + z / 64 % 64), .int .u8 (128 + z % 64)] : List Value).toArray 5))
      have HNW := hide (cells_news wr [.int .u8 (240 + z / 262144), .int .u8 (128 + z / 4096 % 64), .int .u8 (128 + z / 64 % 64), .int .u8 (128 + z % 64)])
      have h63 : (bytesM (rs.take i)).length + 4 ≤ maxLen := by unfold maxLen; omega
      have hbyt : ((bytesM (rs.take i)).length + 4) * 1 ≤ 140737488355328 := by omega
      have hbase : w.heap.size ≤ (wr.alloc (.cells ([.int .u8 (240 + z / 262144), .int .u8 (128 + z / 4096 % 64), .int .u8 (128 + z / 64 % 64), .int .u8 (128 + z % 64)] : List Value).toArray 5)).heap.size := by have := (unhide HBEL).size; simp; omega
      go_wp2_with (at_builtin; refine wpList_append_own _ rfl _ _ 101 rfl w.heap.size 5 ti _ 1 1 Tryz.underlying101 hi0 hz0 hz1 hz2 rfl (by omega) u3 (bytesM (rs.take i)).length (byteCells (bytesM (rs.take i))) rfl (unhide HO1) ⟨wr.heap.size, 0, none⟩ 4 4 [.int .u8 (240 + z / 262144), .int .u8 (128 + z / 4096 % 64), .int .u8 (128 + z / 64 % 64), .int .u8 (128 + z % 64)] rfl rfl (unhide HNW) (by intro u hu; simp at hu; rcases hu with rfl | rfl | rfl | rfl <;> rfl) h63 hbyt hbase ?_; intro v' w2 ho2 hg2 _; have HD := hide (push_bytes (unhide HZ) (unhide HX) (unhide HOWN) (unhide HBEL) (unhide HE) rfl ho2 hg2); clear ho2 hg2)
      go_roundg (gk - 1)
      case measure => omega
      case rel => exact ⟨i + 1, by omega, by go_num, (unhide HD).1, (unhide HD).2⟩
    · obtain rfl : i = rs.length := by omega
      have hiz : ¬ (rs.length : Int) < (rs.length : Int) := by omega
      rw [List.take_length] at hown
      have HOWN := hide hown
      have HBEL := hide hbel
      clear hown hbel
      go_wp2
      go_ret
      first
        | exact ⟨_, rfl, unhide HOWN, unhide HBEL⟩
        | exact ⟨unhide HOWN, unhide HBEL⟩
end Go.Proofs.YtmnmaenmoaehlaaGreatDoor

namespace Go.Proofs.YtmnmaenmoaehlaaGreatDoor
open Go.RowKit Go.Lib

theorem take_small : ∀ (f : Nat) (l : List UInt8), ∀ r ∈ (takeM true f l).1, r ≤ 1114111
  | 0, l => by intro r hr; simp [takeM] at hr
  | f + 1, l => by
    by_cases hne : l = []
    · subst hne; rw [(take_nil true _).1]; intro r hr; cases hr
    · have hp := utf8_pos l hne
      rw [take_step hne (by omega)]
      intro r hr
      rcases List.mem_cons.1 hr with e | e
      · subst e
        by_cases hb : badU l
        · rcases utf8_bad l hne true hb with ⟨h1, _⟩ | ⟨h, _⟩
          · rw [h1]; show (65533 : Nat) ≤ 1114111; omega
          · cases h
        · rw [utf8_ok l hne true hb]; exact decodeL_rune l
      · exact take_small f _ r e
theorem text_small (l : List UInt8) : ∀ r ∈ textM l, r ≤ 1114111 := by rw [textM_eq]; exact take_small _ _
theorem text_len (l : List UInt8) : (textM l).length ≤ l.length := by
  rw [textM_eq]
  have := take_len true l.length l
  omega
theorem runes_row {w : World} {base : Nat} {v : Value} {l : List Nat} (h : w.ownsRow base 21 1 v l.length (runeVals l)) : ∃ a cap, v = .slice a l.length cap ∧ RunesAt w a l := by
  rcases h.2 with ⟨rfl, h0⟩ | ⟨g, cap, cur, rfl, hb, hg, hnc, _⟩
  · obtain rfl : l = [] := List.eq_nil_of_length_eq_zero h0
    exact ⟨none, 0, rfl, (fun i c hi => by cases hi)⟩
  · refine ⟨some ⟨g, 0, none⟩, cap, rfl, fun i c hi => ⟨g, 0, rfl, ?_⟩⟩
    have hil := (List.getElem?_eq_some_iff.1 hi).1
    rw [h.cellAt (0 + i) (by omega), Nat.zero_add]
    unfold runeVals
    rw [List.getElem?_map, hi]
    rfl

set_option maxHeartbeats 8000000 in
set_option maxRecDepth 100000 in
theorem xplain_any (s : ByteArray) (w : World) (hs : s.size ≤ 100000000) : Calls Tryz.prog 61 #[.string s] w fun e w' => e = .returned (.bool (plainU s.data.toList)) ∧ Below w.heap.size w w' := by
  have hn := len_data s
  have hcv := fun W => run_bytes_of_string (P := Tryz.prog) W 9 101 5 s Tryz.underlying9 Tryz.underlying101 Tryz.underlying5
  have htl := text_len s.data.toList
  have hsm := text_small s.data.toList
  have HP : Hid (plainU s.data.toList = (!((textM s.data.toList).any fun r => r == 0 || r == 13) && decide (bytesM (textM s.data.toList) = s.data.toList))) := hide (plain_text s.data.toList).symm
  obtain ⟨cap, hcap⟩ : ∃ cap, grownCap w s.size 0 5 = cap := ⟨_, rfl⟩
  have hcw := hcv w
  rw [hcap] at hcw
  have HT0 : Hid (∀ W, BytesAt W (some ⟨w.heap.size, 0, none⟩) s.data.toList → Calls Tryz.prog 85 #[.int .i64 0, .slice (some ⟨w.heap.size, 0, none⟩) s.size cap] W fun e w' => ∃ v, e = .returned (.tuple #[v, .int .i64 0]) ∧ w'.ownsRow W.heap.size 21 1 v (textM s.data.toList).length (runeVals (textM s.data.toList)) ∧ Below W.heap.size W w') := hide (fun W hW => by
    have := dtext_any W s.data.toList w.heap.size 0 cap hW (by omega)
    rwa [hn] at this)
  have HBY : Hid (BytesAt (w.alloc (.cells (bytesRow s cap) 5 ((bytesRow s cap).size, (bytesRow s cap).size + 1))).drew (some ⟨w.heap.size, 0, none⟩) s.data.toList) := hide (fun i c hi => ⟨_, _, rfl, by rw [Nat.zero_add]; exact brow_cell w s cap i c hi⟩)
  have HB0 : Hid (Below w.heap.size w (w.alloc (.cells (bytesRow s cap) 5 ((bytesRow s cap).size, (bytesRow s cap).size + 1))).drew) := hide (((Below.refl _ _).alloc (Nat.le_refl _) _).drew)
  have HSM := hide hsm
  have hblen := bytes_len (textM s.data.toList)
  have hts : (textM s.data.toList).length ≤ 100000000 := by omega
  generalize textM s.data.toList = tx at HP HT0 HSM hblen hts
  clear hcv hcap htl hsm
  go_enter Tryz.func61, Tryz.ntmps61
  go_wp2_with (go_at_call 85; refine ((unhide HT0) _ (unhide HBY)).mono ?_; rintro e w1 ⟨v1, rfl, ho, hb1⟩; obtain ⟨a1, c1, rfl, hra⟩ := runes_row ho; have HRA := hide hra; have HB1 := hide ((unhide HB0).trans (hb1.mono (unhide HB0).size)); clear ho hb1 hra)
  go_loopg [5] tx.length (fun g v5 wx => ∃ i : Nat, i + g = tx.length ∧ v5 = .int .i64 i ∧ wx = w1 ∧ ((tx.take i).any fun r => r == 0 || r == 13) = false)
  case atStart => exact ⟨0, by omega, rfl, rfl, rfl⟩
  case round =>
    obtain ⟨i, hig, rfl, rfl, hany⟩ := hrel
    by_cases hi : i < tx.length
    · have hiz : (i : Int) < (tx.length : Int) := by omega
      obtain ⟨r, hx⟩ : ∃ r, tx[i]? = some r := ⟨_, List.getElem?_eq_getElem hi⟩
      obtain ⟨b, off, rfl, c0⟩ := (unhide HRA) i r hx
      have hrm := (unhide HSM) r (List.mem_of_getElem? hx)
      obtain ⟨z, hz⟩ : ∃ z : Int, z = (r : Int) := ⟨_, rfl⟩
      rw [← hz] at c0
      have HNX : Hid ((r == 0 || r == 13) = false → ((tx.take (i + 1)).any fun r => r == 0 || r == 13) = false) := hide (fun h => by rw [List.take_add_one, hx, List.any_append, hany]; simp; simpa using h)
      have HNO : Hid ((r == 0 || r == 13) = true → plainU s.data.toList = false) := hide (fun h => by
        rw [unhide HP, show (tx.any fun r => r == 0 || r == 13) = true from List.any_eq_true.2 ⟨r, List.mem_of_getElem? hx, h⟩]
        rfl)
      have HZ := hide hz
      clear hx hrm hany hz
      cases q0 : (z == 0)
      · cases q1 : (z == 13)
        · have HV := hide ((unhide HNX) (by
            have := unhide HZ
            rw [beq_eq_false_iff_ne] at q0 q1
            simp
            omega))
          go_wp2
          go_roundg (gk - 1)
          case measure => omega
          case rel => exact ⟨i + 1, by omega, by go_num, rfl, unhide HV⟩
        · have HV := hide ((unhide HNO) (by
            have := unhide HZ
            rw [beq_iff_eq] at q1
            simp
            omega))
          go_wp2
          go_ret
          exact ⟨by rw [unhide HV]; rfl, unhide HB1⟩
      · have HV := hide ((unhide HNO) (by
          have := unhide HZ
          rw [beq_iff_eq] at q0
          simp
          omega))
        go_wp2
        go_ret
        exact ⟨by rw [unhide HV]; rfl, unhide HB1⟩
    · obtain rfl : i = tx.length := by omega
      have hiz : ¬ (tx.length : Int) < (tx.length : Int) := by omega
      rw [List.take_length] at hany
      have HV : Hid (plainU s.data.toList = decide (bytesM tx = s.data.toList)) := hide (by rw [unhide HP, hany]; rfl)
      have HU := hide (dbytes_any wr a1 c1 tx (unhide HRA) (unhide HSM) (by omega))
      have HBK : Hid (∀ W v, W.ownsRow wr.heap.size 5 1 v (bytesM tx).length (byteCells (bytesM tx)) → (convert 101 9 v).run Tryz.prog W = .ok (.string ⟨(bytesM tx).toArray⟩) W) := hide (fun W v ho => by
        rcases ho.2 with ⟨rfl, h0⟩ | ⟨g, cp, cur, rfl, _⟩
        · have : bytesM tx = [] := List.eq_nil_of_length_eq_zero h0
          rw [run_convert_bytes_string W 101 9 5 none 0 0 Tryz.underlying101 Tryz.underlying5 Tryz.underlying9, this]
          rfl
        · refine run_convert_bytes_back (P := Tryz.prog) W 101 9 5 ⟨g, 0, none⟩ cp (bytesM tx) Tryz.underlying101 Tryz.underlying5 Tryz.underlying9 (fun j hj => ?_)
          refine ho.cells (g := g) rfl j _ ?_
          unfold byteCells
          rw [List.getElem?_map, List.getElem?_eq_getElem hj]
          rfl)
      clear hany
      go_wp2_with (go_at_call 86; refine (unhide HU).mono ?_; rintro e w2 ⟨v2, rfl, ho2, hb2⟩; have hbk := (unhide HBK) _ v2 ho2; have HB2 := hide ((unhide HB1).trans (hb2.mono (unhide HB1).size)); clear ho2 hb2)
      go_ret
      refine ⟨?_, unhide HB2⟩
      rw [unhide HV]
      have he : (bytesM tx == s.toList) = decide (bytesM tx = s.data.toList) := by rw [toList_data, Bool.eq_iff_iff]; simp
      rw [← he]
      rfl
end Go.Proofs.YtmnmaenmoaehlaaGreatDoor
