/-
  families, walked.
-/
import Derived.Test.YtmnmaenmoaehlaaGreatDoorSZbn
namespace Go.Proofs.YtmnmaenmoaehlaaGreatDoor
open Go.RowKit Go.Lib Go.Shelf
attribute [local go_sem] Oper.semAt_some

set_option maxRecDepth 100000 in
set_option maxHeartbeats 8000000 in
theorem fams_in {w : World} {base bA : Nat} {ns : List NodeM} {os : List OneM} {F : Nat → Prop} (h : ArS w base bA ns F) (hs : Sim ns os) (hmax : os.length ≤ 32768) (bP bT : Nat) (hP : w.cell? ⟨bP, 0, none⟩ = some (.pointer (some ⟨bA, 0, none⟩)))
    (x0 : NodeM) (a0 : Option Addr) (cap0 : Nat) (hT : w.heap[bT]? = some (nodeB x0 a0 cap0)) (hav : x0.av = .slice a0 x0.attrs.length cap0) (hge : GE ns os ⟨x0, 0, 0⟩) (hat : w.ownsRow base 93 4 x0.av x0.attrs.length (attrRow x0.attrs))
    (m : Nat) (hm : 1 ≤ m) (l : Nat) (J Jx : World → Prop) (W : World) (hwl : w.heap.size ≤ l) (hlW : l < W.heap.size) (hWw : Below w.heap.size w W)
    (hJ : ∀ A B, J A → Below W.heap.size A B → J B) (hJl : ∀ A, J A → ∃ r, A.heap[l]? = some (.loop r))
    (hY : ∀ y W1, AX ns os y W1 → J W1 → YieldAt Fence.wide (m - 1) Tryz.prog l #[.agg (famC y)] W1 fun e W' => (e = .returned (.bool true) ∧ okX y = true ∧ J W' ∧ Mod (· = l) W1 W') ∨ (e = .returned (.bool false) ∧ okX y = false ∧ Jx W'))
    (h0 : J W) :
    CallsIn Fence.wide m Tryz.prog 58 #[.func (.yield l) #[] #[], .pointer (some ⟨bT, 0, none⟩), .pointer (some ⟨bP, 0, none⟩)] W fun e W' => (∃ v, e = .returned v) ∧ ((okE os ⟨x0, 0, 0⟩ = true ∧ J W') ∨ (okE os ⟨x0, 0, 0⟩ = false ∧ Jx W')) := by
  obtain ⟨res, hres⟩ : ∃ r, okE os ⟨x0, 0, 0⟩ = r := ⟨_, rfl⟩
  rw [hres]
  obtain ⟨mu, hmu⟩ := least_of (fun (k : Nat) (p : Value) (wx : World) => ∃ L : List FamE, k = sizeL os L ∧ Rest ns os base W.heap.size L p wx ∧ Below w.heap.size w wx ∧ W.heap.size ≤ wx.heap.size ∧ J wx ∧ res = L.all (okE os) ∧ sizeL os L ≤ os.length)
  have hTW := (hWw.block bT (lt_of_block hT)).trans hT
  have q0 := cell_row _ _ 0 _ _ _ hTW
  have q1 := cell_row _ _ 1 _ _ _ hTW
  have q2 := cell_row _ _ 2 _ _ _ hTW
  have q3 := cell_row _ _ 3 _ _ _ hTW
  have q4 := cell_row _ _ 4 _ _ _ hTW
  have q5 := cell_row _ _ 5 _ _ _ hTW
  have q6 := cell_row _ _ 6 _ _ _ hTW
  have q7 := cell_row _ _ 7 _ _ _ hTW
  have q8 := cell_row _ _ 8 _ _ _ hTW
  have q9 := cell_row _ _ 9 _ _ _ hTW
  have q10 := cell_row _ _ 10 _ _ _ hTW
  have q11 := cell_row _ _ 11 _ _ _ hTW
  have HAR := hide h
  have HS := hide hs
  have HMU := hide hmu
  have HP := hide hP
  have HGE := hide hge
  have HAT := hide hat
  have HAV := hide hav
  have HWW := hide hWw
  have HJ := hide hJ
  have HJL := hide hJl
  have HY := hide hY
  have H0 := hide h0
  have HRES := hide hres
  clear h hs hmu hP hT hTW hge hat hav hWw hJ hJl hY h0 hres
  refine callsIn_of_wp Tryz.func58 rfl trivial ?_ rfl
  simp only [Tryz.ntmps58, List.size_toArray, List.length_cons, List.length_nil, Nat.reduceAdd, Nat.reduceSub, Array.replicate_succ, Array.replicate_zero, List.push_toArray, List.append_toArray, List.nil_append, List.cons_append]
  gi_wp2
  gi_loopw [4] (fun p wx => ∃ k, ∃ L : List FamE, k = sizeL os L ∧ Rest ns os base W.heap.size L p wx ∧ Below w.heap.size w wx ∧ W.heap.size ≤ wx.heap.size ∧ J wx ∧ res = L.all (okE os) ∧ sizeL os L ≤ os.length) (fun p wx => mu p wx)
  case atStart =>
    have hbA := (unhide HWW).alloc (unhide HWW).size (famB ⟨x0, 0, 0⟩ a0 cap0 (.slice none 0 0))
    have hbW := (Below.refl W.heap.size W).alloc (Nat.le_refl _) (famB ⟨x0, 0, 0⟩ a0 cap0 (.slice none 0 0))
    have hrow := World.ownsRow_lit (base := W.heap.size) (e := 73) (size := 14) W #[.int .i64 x0.kind, .int .i64 x0.space, .string x0.name, .slice a0 x0.attrs.length cap0, .string x0.data, .string x0.system, .int .i64 x0.parent, .int .i64 x0.first, .int .i64 x0.last, .int .i64 x0.prev, .int .i64 x0.next, .int .i64 x0.inner, .slice none 0 0, .int .i64 0] 1 (Nat.le_refl _) (by unfold maxLen; omega) rfl
    have ecs : famRow [⟨x0, 0, 0⟩] = [.int .i64 x0.kind, .int .i64 x0.space, .string x0.name, .slice a0 x0.attrs.length cap0, .string x0.data, .string x0.system, .int .i64 x0.parent, .int .i64 x0.first, .int .i64 x0.last, .int .i64 x0.prev, .int .i64 x0.next, .int .i64 x0.inner, .slice none 0 0, .int .i64 0] := by
      rw [famRow_one]
      unfold FamE.cells NodeM.cells
      dsimp only
      rw [unhide HAV]
      rfl
    obtain ⟨nk, o, _, hos, _⟩ := (unhide HGE).node
    obtain ⟨path, hp, _⟩ := (unhide HGE).path
    have hfew := visK_few (unhide HS) (os.length - 0) 0 o path hos hp
    refine ⟨_, [⟨x0, 0, 0⟩], rfl, ⟨?_, fun y hy => by rw [List.mem_singleton.1 hy]; exact unhide HGE, fun y hy => ?_⟩, hbA, by simp, (unhide HJ) _ _ (unhide H0) hbW, ?_, ?_⟩
    · rw [ecs]
      exact hrow
    · rw [List.mem_singleton.1 hy]
      refine ⟨a0, cap0, unhide HAV, ownsRow_kept (unhide HAT) (fun q hq => hbA.block q ((unhide HAT).lt q hq).2)⟩
    · rw [← unhide HRES]; simp
    · have : sizeL os [⟨x0, 0, 0⟩] = sizeE os ⟨x0, 0, 0⟩ := by simp [sizeL]
      rw [this]
      exact hfew
  case round =>
    obtain ⟨L, hk, hrest, hbw, hWs, hj, hall, hsz⟩ := ((unhide HMU) u4 wr hrel).1
    have HMK := hide hk
    clear hrel hk q0 q1 q2 q3 q4 q5 q6 q7 q8 q9 q10 q11
    rcases List.eq_nil_or_concat L with rfl | ⟨L', x, hLc⟩
    · obtain ⟨a, cp, rfl⟩ : ∃ a cp, u4 = .slice a 0 cp := by
        rcases hrest.own.2 with ⟨e, _⟩ | ⟨g, cap, cur, e, _⟩
        · exact ⟨none, 0, e⟩
        · exact ⟨_, cap, e⟩
      have HR : Hid (res = true) := hide hall
      have HJ2 := hide hj
      clear hrest hbw hj hall hsz
      gi_wp2
      go_end0
      exact ⟨⟨_, rfl⟩, .inl ⟨unhide HR, unhide HJ2⟩⟩
    · rw [List.concat_eq_append] at hLc
      subst hLc
      have hLl : (L' ++ [x]).length = L'.length + 1 := by simp
      have hown := hrest.own
      rw [hLl] at hown
      obtain ⟨g, cap, rfl⟩ := ownsRow_succ hown
      have hcap : (L'.length : Int) ≤ (cap : Int) := by
        rcases hown.2 with ⟨e, _⟩ | ⟨g', cap', cur, e, _, _, hc, _⟩
        · cases e
        · cases e; omega
      have hgex := hrest.ge x (by simp)
      obtain ⟨ao, cp, hxav, hxat⟩ := hrest.attrs x (by simp)
      have hle : L'.length + 1 ≤ 32768 := by
        have := size_len (L' ++ [x]) hrest.ge
        simp only [List.length_append, List.length_cons, List.length_nil] at this
        omega
      have hlz : (L'.length : Int) < 32768 := by omega
      have hl0 : (0 : Int) ≤ (L'.length : Int) := by omega
      have hl1 : (0 : Int) < (L'.length : Int) + 1 := by omega
      have hwr : IntKind.i64.wrap (L'.length : Int) = (L'.length : Int) := wrap_fit _ (by omega) (by omega)
      have cells : ∀ (j : Nat) u, x.cells[j]? = some u → wr.cell? ⟨g, L'.length * 14 + j, none⟩ = some u := fun j u hj => by
        have hj14 : j < 14 := by have := (List.getElem?_eq_some_iff.1 hj).1; rwa [fam_len] at this
        rw [hown.cellAt (L'.length * 14 + j) (by omega), famRow_app, famRow_one, List.getElem?_append_right (by rw [famRow_len]; omega), famRow_len, show L'.length * 14 + j - L'.length * 14 = j by omega]
        exact hj
      have c0 : wr.cell? ⟨g, L'.length * 14, none⟩ = some (.int .i64 x.n.kind) := cells 0 _ rfl
      have c1 := cells 1 _ rfl
      have c2 := cells 2 _ rfl
      have c3 := cells 3 _ (show x.cells[3]? = some (.slice ao x.n.attrs.length cp) by rw [← hxav]; rfl)
      have c4 := cells 4 _ rfl
      have c5 := cells 5 _ rfl
      have c6 := cells 6 _ rfl
      have c7 := cells 7 _ rfl
      have c8 := cells 8 _ rfl
      have c9 := cells 9 _ rfl
      have c10 := cells 10 _ rfl
      have c11 := cells 11 _ rfl
      have c12 := cells 12 _ rfl
      have c13 := cells 13 _ rfl
      have cP := (hbw.cell (p := ⟨bP, 0, none⟩) (World.block_lt_of_cell? w _ (unhide HP))).trans (unhide HP)
      have hPl : bP < wr.heap.size := World.block_lt_of_cell? wr _ cP
      have HREST := hide hrest
      have HBW := hide hbw
      have HWS := hide hWs
      have HJ2 := hide hj
      have HALL := hide hall
      have HSZ := hide hsz
      have HGX := hide hgex
      have HXA := hide hxat
      have HXAV := hide hxav
      have HOWN := hide hown
      clear hrest hbw hj hall hsz hgex hxat hxav hown cells hWs hLl hle
      obtain ⟨nk, o, hnk, hos, hxn⟩ := (unhide HGX).node
      have hfirst : x.n.first = headI o.kids := by
        have := ((unhide HS).first_nil hnk hos).1
        rw [hxn]
        exact this
      have hkm : o.kids.length ≤ 1000000 := by
        have hkk := (unhide HS).kids x.i o hos
        have h1 := nodup_few ns.length o.kids hkk.nodup hkk.mem
        rw [(unhide HS).len] at h1
        omega
      have HK := hide (kidsOf_any ((unhide HAR).below ((unhide HBW).alloc (unhide HBW).size (famB x ao cp (.slice none 0 0)))) (unhide HS) x.i o hos x.n ao cp hfirst hkm)
      unfold nodW famB at HK
      have HOS := hide hos
      clear hnk hos hxn hfirst hkm
      gi_wp2_with fail
      refine ⟨trivial, (callsIn_wide.2 (unhide HK)).mono ?_⟩
      rintro e w2 ⟨v, kl, rfl, hki, hkl⟩
      obtain ⟨hb0, hb3, hbl, hkx⟩ := fam_mid (x := x) (ao := ao) (cp := cp) hki
      have hkx0 := hkx
      obtain ⟨ka, kc, rfl, hrow⟩ := hkx0.row
      have hfz := fun j => frozen_of_heap (j := j) hb0
      have d0 := cell_row _ _ 0 _ _ _ hb0
      have d1 := cell_row _ _ 1 _ _ _ hb0
      have d2 := cell_row _ _ 2 _ _ _ hb0
      have d3 := cell_row _ _ 3 _ _ _ hb0
      have d4 := cell_row _ _ 4 _ _ _ hb0
      have d5 := cell_row _ _ 5 _ _ _ hb0
      have d6 := cell_row _ _ 6 _ _ _ hb0
      have d7 := cell_row _ _ 7 _ _ _ hb0
      have d8 := cell_row _ _ 8 _ _ _ hb0
      have d9 := cell_row _ _ 9 _ _ _ hb0
      have d10 := cell_row _ _ 10 _ _ _ hb0
      have d11 := cell_row _ _ 11 _ _ _ hb0
      have d12 := cell_row _ _ 12 _ _ _ hb0
      have d13 := cell_row _ _ 13 _ _ _ hb0
      have hj3 := (unhide HJ) _ _ (unhide HJ2) (hbl.mono (unhide HWS))
      have hxa3 : AttrsIn (w2.setCell ⟨wr.heap.size, 12, none⟩ (.slice ka kl.length kc)) ao x.n.attrs := by
        have h1 := ownsRow_kept (unhide HXA) (fun k hk => hbl.block k ((unhide HXA).lt k hk).2)
        rw [unhide HXAV] at h1
        obtain ⟨a2, c2, e2, ha2⟩ := ownsRow_attrs h1
        cases e2
        exact ha2
      obtain ⟨fn, tmps, assign, body, hy, hR⟩ := (unhide HY) ⟨x, ao, cp, kl, ka, kc⟩ (w2.setCell ⟨wr.heap.size, 12, none⟩ (.slice ka kl.length kc)) ⟨hrow, hxa3, unhide HGX, o, unhide HOS, hkl⟩ hj3
      unfold famC at hy
      have HR := hide hR
      have HB3 := hide hb3
      have HBL := hide hbl
      have HKX := hide hkx
      have HKL := hide hkl
      have HJ3 := hide hj3
      clear hb0 hb3 hbl hkx hkx0 hrow hj3 hxa3 hR hki hkl
      have HOK : Hid (okE os x = (okX ⟨x, ao, cp, kl, ka, kc⟩ && (kidsE kl o.kids x.d).all (okE os))) := hide (by
        rw [okX_fam (unhide HS) (y := ⟨x, ao, cp, kl, ka, kc⟩) (unhide HGX) (unhide HOS) (unhide HKL)]
        exact okE_kids (unhide HGX) (unhide HOS) _ (kidsE_len (unhide HKL).1) (fun j y hy => by
          obtain ⟨n, k, _, hk, rfl⟩ := kidsE_get hy
          exact ⟨hk, rfl⟩))
      gi_wp2_with fail
      refine (unhide HR).mono ?_
      rintro e W4 (⟨rfl, hok, hj4, hm4⟩ | ⟨rfl, hok, hjx4⟩)
      · clear hy
        have hl3 := (unhide HJL) _ (unhide HJ3)
        have hsz4 : wr.heap.size < W4.heap.size := by
          have h1 := hm4.size
          have h2 := lt_of_block (unhide HB3)
          omega
        have hW4 := unhide HWS
        have hb4 : W4.heap[wr.heap.size]? = some (famB x ao cp (.slice ka kl.length kc)) := (hm4.block _ (lt_of_block (unhide HB3)) (by omega)).trans (unhide HB3)
        have hkx4 : KX base wr.heap.size (.slice ka kl.length kc) kl W4 := (unhide HKX).kept (fun _ hr => row_own hr hl3 hm4)
        have hkeep : ∀ {base : Nat} {e : TypeId} {s : Nat} {v : Value} {n : Nat} {xs : List Value}, wr.ownsRow base e s v n xs → W4.ownsRow base e s v n xs := fun ho => row_own (ownsRow_kept ho (fun k hk => (unhide HBL).block k (ho.lt k hk).2)) hl3 hm4
        have hrest4 : Rest ns os base W.heap.size (L' ++ (kidsE kl o.kids x.d).take 0) (.slice (some ⟨g, 0, none⟩) L'.length cap) W4 := by
          rw [List.take_zero, List.append_nil]
          refine ⟨hkeep (ownsRow_pop (famRow_len L') (by have := unhide HOWN; rw [famRow_app] at this; exact this)), fun y hy => (unhide HREST).ge y (by simp [hy]), fun y hy => ?_⟩
          obtain ⟨a2, c2, e2, h2⟩ := (unhide HREST).attrs y (by simp [hy])
          exact ⟨a2, c2, e2, hkeep h2⟩
        have hbw4 : Below w.heap.size w W4 := by
          have h3 := (unhide HBW).trans ((unhide HBL).mono (unhide HBW).size)
          exact h3.trans ⟨hm4.os, hm4.tape, hm4.output, hm4.size, fun k hk => hm4.block k (Nat.lt_of_lt_of_le hk h3.size) (by omega)⟩
        have hpos : 1 ≤ sizeE os x := sizeE_pos (unhide HGX)
        have hsk : sizeE os x = 1 + sizeL os (kidsE kl o.kids x.d) := sizeE_kids (unhide HGX) (unhide HOS) _ (kidsE_len (unhide HKL).1) (fun j y hy => by
          obtain ⟨n, k, _, hk, rfl⟩ := kidsE_get hy
          exact ⟨hk, rfl⟩)
        have hall4 : res = (L' ++ kidsE kl o.kids x.d).all (okE os) := by
          rw [unhide HALL, List.all_append, List.all_cons, unhide HOK, hok, List.all_append]
          simp
        have hszL : sizeL os (L' ++ kidsE kl o.kids x.d) + 1 = sizeL os (L' ++ [x]) := by
          rw [sizeL_app, sizeL_app]
          have : sizeL os [x] = sizeE os x := by simp [sizeL]
          omega
        have hd1 := (unhide HGX).deep
        have hdz : (x.d : Int) + 1 ≤ 100000 := by omega
        have hdz0 : (0 : Int) ≤ (x.d : Int) := by omega
        have e12 := cell_row _ _ 12 _ _ _ hb4
        have HB4 := hide hb4
        have HKX4 := hide hkx4
        have HR4 := hide hrest4
        have HBW4 := hide hbw4
        have HALL4 := hide hall4
        have HSZL := hide hszL
        have HJ4 := hide hj4
        have HS4 := hide hsz4
        have hkll : kl.length ≤ 32768 := by
          have hkk := (unhide HS).kids x.i o (unhide HOS)
          have h1 := nodup_few ns.length o.kids hkk.nodup hkk.mem
          rw [(unhide HS).len] at h1
          have := (unhide HKL).1
          omega
        clear hl3 hb4 hkx4 hkeep hrest4 hbw4 hpos hsk hall4 hszL hj4 hok hsz4 hW4
        clear c0 c1 c2 c3 c4 c5 c6 c7 c8 c9 c10 c11 c12 c13 d0 d1 d2 d3 d4 d5 d6 d7 d8 d9 d10 d11 d12 d13 cP hfz
        gi_wp2_with fail
        have hWB := unhide HWS
        have hgB : g < wr.heap.size := ((unhide HOWN).lt g rfl).2
        generalize hB6 : wr.heap.size = B6 at hWB hgB HB4 HKX4 HS4 e12 ⊢
        gi_loopw [4, 37] (fun p q wx => ∃ j : Nat, q = .int .i64 j ∧ j ≤ kl.length ∧ Rest ns os base W.heap.size (L' ++ (kidsE kl o.kids x.d).take j) p wx ∧ KX base B6 (.slice ka kl.length kc) kl wx ∧ wx.heap[B6]? = some (famB x ao cp (.slice ka kl.length kc)) ∧ Below w.heap.size w wx ∧ W.heap.size ≤ wx.heap.size ∧ p.ownBlock ≠ some B6 ∧ J wx) (fun _ q _ => kl.length - (Lib.intOf q).toNat)
        case atStart => exact ⟨0, rfl, Nat.zero_le _, unhide HR4, unhide HKX4, unhide HB4, unhide HBW4, (by have := unhide HS4; omega), (fun e => by have e2 : g = B6 := Option.some.inj e; omega), unhide HJ4⟩
        case round =>
          obtain ⟨j, rfl, hjl, hrest, hkx, hb6, hbw, hws, hne6, hjj⟩ := hrel
          by_cases hjlt : j < kl.length
          · have hjz : (j : Int) < (kl.length : Int) := by omega
            obtain ⟨n, hn⟩ : ∃ n, kl[j]? = some n := ⟨_, List.getElem?_eq_getElem hjlt⟩
            obtain ⟨a', cp', he, hrow⟩ := hkx.row
            cases he
            obtain ⟨b, off, ao2, cp2, rfl, hnav, hnat, r0, r1, r2, r3, r4, r5, r6, r7, r8, r9, r10, r11⟩ := hrow.at j n hn
            obtain ⟨k, hk⟩ : ∃ k, o.kids[j]? = some k := ⟨_, List.getElem?_eq_getElem (by rw [← (unhide HKL).1]; exact hjlt)⟩
            have f13 := cell_row _ _ 13 _ _ _ hb6
            have hlt6 : B6 < wr.heap.size := lt_of_block hb6
            have hltb : b < wr.heap.size := World.block_lt_of_cell? wr _ r0
            have hjz0 : (0 : Int) ≤ (j : Int) := by omega
            have htk : (kidsE kl o.kids x.d).take (j + 1) = (kidsE kl o.kids x.d).take j ++ [⟨n, k, x.d + 1⟩] := by
              rw [List.take_add_one]
              congr 1
              unfold kidsE
              rw [List.getElem?_map, show (kl.zip o.kids)[j]? = some (n, k) from List.getElem?_zip_eq_some.2 ⟨hn, hk⟩]
              rfl
            have hge := kidsE_ge (unhide HS) (unhide HGX) (unhide HOS) (unhide HKL) (y := ⟨n, k, x.d + 1⟩) (by
              have : (⟨n, k, x.d + 1⟩ : FamE) ∈ (kidsE kl o.kids x.d).take (j + 1) := by rw [htk]; simp
              exact List.mem_of_mem_take this)
            obtain ⟨ao3, cp3, hnav3, hnat3⟩ := hkx.attrs j n hn
            have HPREP : Hid (∀ ob, Below W.heap.size wr ((wr.alloc (nodeB n ao2 cp2)).alloc ob) ∧ ((wr.alloc (nodeB n ao2 cp2)).alloc ob).ownsRow W.heap.size 73 14 u4 (L' ++ (kidsE kl o.kids x.d).take j).length (famRow (L' ++ (kidsE kl o.kids x.d).take j)) ∧ W.heap.size ≤ ((wr.alloc (nodeB n ao2 cp2)).alloc ob).heap.size) := hide (fun ob => by
              have hb := ((Below.refl wr.heap.size wr).alloc (Nat.le_refl _) (nodeB n ao2 cp2)).alloc (by simp) ob
              exact ⟨hb.mono hws, ownsRow_kept hrest.own (fun q hq => hb.block q (hrest.own.lt q hq).2), by have := hb.size; omega⟩)
            have hwA : ∀ ob, Below wr.heap.size wr ((wr.alloc (nodeB n ao2 cp2)).alloc ob) := fun ob => ((Below.refl wr.heap.size wr).alloc (Nat.le_refl _) (nodeB n ao2 cp2)).alloc (by simp) ob
            have HPUSH : Hid (∀ ob g' c' w5, w5.ownsRow W.heap.size 73 14 (.slice (some ⟨g', 0, none⟩) ((L' ++ (kidsE kl o.kids x.d).take j).length + 1) c') ((L' ++ (kidsE kl o.kids x.d).take j).length + 1) (famRow (L' ++ (kidsE kl o.kids x.d).take j) ++ (⟨n, k, x.d + 1⟩ : FamE).cells) → ((wr.alloc (nodeB n ao2 cp2)).alloc ob).grownBy w5 u4.ownBlock → (u4.ownBlock = some g' ∨ g' = ((wr.alloc (nodeB n ao2 cp2)).alloc ob).heap.size) →
                Rest ns os base W.heap.size (L' ++ (kidsE kl o.kids x.d).take (j + 1)) (.slice (some ⟨g', 0, none⟩) ((L' ++ (kidsE kl o.kids x.d).take j).length + 1) c') w5 ∧ KX base B6 (.slice (some ⟨b, off, none⟩) kl.length kc) kl w5 ∧ w5.heap[B6]? = some (famB x ao cp (.slice (some ⟨b, off, none⟩) kl.length kc)) ∧ Below w.heap.size w w5 ∧ W.heap.size ≤ w5.heap.size ∧ (Value.slice (some ⟨g', 0, none⟩) ((L' ++ (kidsE kl o.kids x.d).take j).length + 1) c').ownBlock ≠ some B6 ∧ J w5) := hide (fun ob g' c' w5 ho hg5 hat => by
              have hrA := hrest.below (hwA ob)
              have hb5 : Below W.heap.size wr w5 := by
                have h1 := (hwA ob).mono hws
                refine h1.trans ⟨hg5.os, hg5.tape, hg5.output, hg5.size, fun q hq => hg5.block q (by have := (hwA ob).size; omega) (fun e => ?_)⟩
                have := (hrest.own.lt q e.symm).1
                omega
              refine ⟨?_, (hkx.below (hwA ob)).kept (fun he ho' => grown_kept hrA.own hg5 he ho'), ?_, ?_, ?_, ?_, (unhide HJ) _ _ hjj hb5⟩
              · rw [htk, ← List.append_assoc]
                refine rest_push hrA hge ⟨ao3, cp3, hnav3, ?_⟩ hg5 ho
                exact ownsRow_kept hnat3 (fun q hq => (hwA ob).block q (hnat3.lt q hq).2)
              · exact (hg5.block B6 (Nat.lt_of_lt_of_le hlt6 (hwA ob).size) (fun e => hne6 e.symm)).trans (((hwA ob).block B6 hlt6).trans hb6)
              · exact hbw.trans ((hb5.mono (unhide HWW).size))
              · have := hb5.size; omega
              · intro e
                have e2 : g' = B6 := Option.some.inj e
                rcases hat with h | h
                · rw [e2] at h; exact hne6 h
                · have := (hwA ob).size; omega)
            have hlen : (L' ++ (kidsE kl o.kids x.d).take j).length + 1 ≤ 100000 := by
              have h1 := List.length_take_le j (kidsE kl o.kids x.d)
              have h2 := kidsE_len (l := kl) (K := o.kids) (d := x.d) (unhide HKL).1
              rw [List.length_append]
              omega
            obtain ⟨ti, hi0, hz0, hz1, hz2⟩ := info_parts Tryz.infoFam
            have h63 : (L' ++ (kidsE kl o.kids x.d).take j).length + 1 ≤ maxLen := by unfold maxLen; omega
            have hbytes : ((L' ++ (kidsE kl o.kids x.d).take j).length + 1) * 168 ≤ 140737488355328 := by omega
            have HNW : Hid (∀ (j : Nat) u, (⟨n, k, x.d + 1⟩ : FamE).cells[j]? = some u → ((wr.alloc (nodeB n ao2 cp2)).alloc (famB ⟨n, k, x.d + 1⟩ ao2 cp2 (.slice none 0 0))).cell? ((⟨wr.heap.size + 1, 0, none⟩ : Addr).add j) = some u) := hide (fun j u hj => by
              have hb : ((wr.alloc (nodeB n ao2 cp2)).alloc (famB ⟨n, k, x.d + 1⟩ ao2 cp2 (.slice none 0 0))).heap[wr.heap.size + 1]? = some (famB ⟨n, k, x.d + 1⟩ ao2 cp2 (.slice none 0 0)) := by
                have := World.alloc_heap_new (wr.alloc (nodeB n ao2 cp2)) (famB ⟨n, k, x.d + 1⟩ ao2 cp2 (.slice none 0 0))
                rwa [World.size_alloc] at this
              unfold famB at hb ⊢
              refine World.news_of_block hb j u ?_
              rw [← hj]
              unfold FamE.cells NodeM.cells
              dsimp only
              rw [hnav]
              rfl)
            unfold famB at HNW
            dsimp only at HNW
            rw [show (((x.d + 1 : Nat)) : Int) = (x.d : Int) + 1 from by omega] at HNW
            unfold nodeB at HPREP HPUSH HNW
            have hone := fam_one n ao2 cp2 (x.d + 1) k hnav
            have HB6 := hide hb6
            clear hrest hkx hb6 hbw hws hne6 hjj hnat hnav3 hnat3 hge htk hrow hn hk hwA
            generalize hLL : L' ++ (kidsE kl o.kids x.d).take j = LL at HPREP HPUSH hlen h63 hbytes
            gi_wp2_with (gi_at_builtin; refine wpListIn_append_lies _ rfl _ _ 112 rfl W.heap.size 73 ti _ 14 168 Tryz.underlying112 hi0 hz0 hz1 hz2 rfl (by omega) u4 LL.length (famRow LL) rfl ((unhide HPREP) _).2.1 ⟨wr.heap.size + 1, 0, none⟩ 1 1 (⟨n, k, x.d + 1⟩ : FamE).cells rfl rfl (unhide HNW) hone (by omega) h63 hbytes ((unhide HPREP) _).2.2 ?_; intro g' c' w5 ho5 hg5 hat5; have HRES5 := hide ((unhide HPUSH) _ g' c' w5 ho5 hg5 hat5); clear ho5 hg5 hat5)
            obtain ⟨z1, z2, z3, z4, z5, z6, z7⟩ := unhide HRES5
            refine ⟨⟨j + 1, by go_num, by omega, z1, z2, z3, z4, z5, z6, z7⟩, ?_⟩
            show kl.length - ((j : Int) + 1).toNat < kl.length - ((j : Int)).toNat
            omega
          · have hjz : ¬ (j : Int) < (kl.length : Int) := by omega
            have hfin : (kidsE kl o.kids x.d).take j = kidsE kl o.kids x.d := by
              refine List.take_of_length_le ?_
              rw [kidsE_len (unhide HKL).1, ← (unhide HKL).1]
              omega
            rw [hfin] at hrest
            have hsz5 : sizeL os (L' ++ kidsE kl o.kids x.d) ≤ os.length := by have := unhide HSZL; have := unhide HSZ; omega
            have hnew := (unhide HMU) u4 wr ⟨_, _, rfl, hrest, hbw, hws, hjj, unhide HALL4, hsz5⟩
            have HFIN := hide (show ∃ k, ∃ L : List FamE, k = sizeL os L ∧ Rest ns os base W.heap.size L u4 wr ∧ Below w.heap.size w wr ∧ W.heap.size ≤ wr.heap.size ∧ J wr ∧ res = L.all (okE os) ∧ sizeL os L ≤ os.length from ⟨_, _, rfl, hrest, hbw, hws, hjj, unhide HALL4, hsz5⟩)
            have HLT := hide (show mu u4 wr ≤ sizeL os (L' ++ kidsE kl o.kids x.d) from hnew.2 _ ⟨_, rfl, hrest, hbw, hws, hjj, unhide HALL4, hsz5⟩)
            clear hrest hkx hb6 hbw hws hne6 hjj hfin hnew
            gi_wp2
            refine ⟨unhide HFIN, ?_⟩
            have h1 := unhide HLT
            have h2 := unhide HSZL
            have h3 := unhide HMK
            omega
      · have HR2 : Hid (res = false) := hide (by
          rw [unhide HALL, List.all_append, List.all_cons, unhide HOK, hok]
          simp)
        have HJX := hide hjx4
        clear hok hjx4
        gi_wp2
        (try simp only [Exit.inBlock, Exit.then])
        refine bodyPost_ret (results_none rfl _ _ _) rfl ?_
        exact ⟨⟨_, rfl⟩, .inr ⟨unhide HR2, unhide HJX⟩⟩
end Go.Proofs.YtmnmaenmoaehlaaGreatDoor
