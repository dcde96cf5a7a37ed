import Derived.Test.YtkakncngkmoegaaGreatXHd
/-
  AdoptPlain: its calls, at an arena, a stack, a list and others beside.
-/
namespace Go.Proofs.YtkakncngkmoegaaGreat
open Go.RowKit Go.Sort

section
variable {wb W : World} {bA bK bL : Nat} {os os' : List OneM} {L L' : List Int} {es es' : List EntM} {tl : List (Ob wb.heap.size)} {i : Nat} {own : ByteArray}
theorem pEl (h : Env wb W (aO _ bA os :: stOb _ bK bA (keysO os) L :: tl)) (nm : ByteArray) {id : Int} (he : elemO os 0 nm [] = (os', id, 0)) : Calls Tryz.prog 18 #[.pointer (some ⟨bA, 0, none⟩), .int .i64 0, .string nm, .slice none 0 0] W fun e w' => e = .returned (.tuple #[.int .i64 id, .int .i64 0]) ∧ Env wb w' (aO _ bA os' :: stOb _ bK bA (keysO os') L :: tl) := by
  have := aelem_any (i := 0) h rfl 0 nm
  have hm := keysO_elem_more os 0 nm
  rw [he] at this hm
  exact this.mono fun _ _ ⟨a, b⟩ => ⟨a, b.stay (j := 1) rfl hm⟩
theorem pLink (h : Env wb W (aO _ bA os :: stOb _ bK bA (keysO os) L :: tl)) (p c : Int) : Calls Tryz.prog 19 #[.pointer (some ⟨bA, 0, none⟩), .int .i64 p, .int .i64 c, .int .i64 (-1)] W fun e w' => (∃ r, e = .returned (.int .i64 r)) ∧ Env wb w' (aO _ bA (linkR os p c (-1)) :: stOb _ bK bA (keysO (linkR os p c (-1))) L :: tl) :=
  (alink_any (i := 0) h rfl p c (-1)).mono fun _ _ ⟨a, b⟩ => ⟨⟨_, a⟩, b.stay (j := 1) rfl (keysO_link_more _ _ _ _)⟩
theorem pPush (h : Env wb W (aO _ bA os :: stOb _ bK bA (keysO os) L :: tl)) (hg : Good (keysO os) L) (id : Int) (hp : pushL (keysO os) L id = L') : Calls Tryz.prog 20 #[.pointer (some ⟨bK, 0, none⟩), .int .i64 id] W fun e w' => (∃ r, e = .returned (.int .i64 r)) ∧ Env wb w' (aO _ bA os :: stOb _ bK bA (keysO os) L' :: tl) := by
  have := apush_any (i := 0) (j := 1) h rfl rfl (by decide) hg id
  rw [hp] at this
  exact this.mono fun _ _ ⟨a, b⟩ => ⟨⟨_, a⟩, b⟩
theorem pEnter (h : Env wb W (aO _ bA os :: stOb _ bK bA (keysO os) L :: liOb _ bL bA [] :: tl)) (own : ByteArray) (id : Int) (hp : pushE (keysO os) [] id (tokP own) = es') : Calls Tryz.prog 21 #[.pointer (some ⟨bL, 0, none⟩), .int .i64 id, .agg #[.int .i64 1, .string own, .string ⟨#[]⟩, .string ⟨#[]⟩, .int .i64 0, .bool false, .int .i32 0, .bool false, .slice none 0 0]] W fun e w' => (∃ r, e = .returned (.int .i64 r)) ∧ Env wb w' (aO _ bA os :: stOb _ bK bA (keysO os) L :: liOb _ bL bA es' :: tl) := by
  have := alpush_any (i := 0) (j := 2) h rfl rfl (by simp) id (tokP own) none 0 ⟨fun i x hx => by simp [tokP] at hx⟩ (by simp [tokP])
  rw [hp] at this
  exact this.mono fun _ _ ⟨a, b⟩ => ⟨⟨_, a⟩, b⟩
theorem pNode (h : Env wb W (aO _ bA os :: tl)) {k : Nat} {o : OneM} (ho : os[k]? = some o) {u : Int} (hu : o.up = u) : Calls Tryz.prog 14 #[.pointer (some ⟨bA, 0, none⟩), .int .i64 ((k : Int))] W fun e w' => ∃ (nk nsp : Int) (nm : ByteArray) (ao : Option Addr) (mm cc : Nat) (da sy : ByteArray) (fi la pr ne inn : Int), e = .returned (.tuple #[.agg #[.int .i64 nk, .int .i64 nsp, .string nm, .slice ao mm cc, .string da, .string sy, .int .i64 u, .int .i64 fi, .int .i64 la, .int .i64 pr, .int .i64 ne, .int .i64 inn], .int .i64 0]) ∧ Env wb w' (aO _ bA os :: tl) := by
  refine (anode_in (i := 0) h rfl ho).mono ?_
  rintro e w' ⟨n, ao, m, c, rfl, hn, hb⟩
  obtain ⟨nk, nsp, nm, av, da, sy, pa, fi, la, pr, ne, inn, att⟩ := n
  have e1 : pa = u := hn.same.up.trans hu
  subst e1
  exact ⟨nk, nsp, nm, ao, m, c, da, sy, fi, la, pr, ne, inn, rfl, h.more hb⟩
theorem pNodeI (h : Env wb W (aO _ bA os :: tl)) (hE : EndI os own i) : Calls Tryz.prog 14 #[.pointer (some ⟨bA, 0, none⟩), .int .i64 ((i : Int) + 1)] W fun e w' => ∃ (nk nsp : Int) (nm : ByteArray) (ao : Option Addr) (mm cc : Nat) (da sy : ByteArray) (fi la pr ne inn : Int), e = .returned (.tuple #[.agg #[.int .i64 nk, .int .i64 nsp, .string nm, .slice ao mm cc, .string da, .string sy, .int .i64 i, .int .i64 fi, .int .i64 la, .int .i64 pr, .int .i64 ne, .int .i64 inn], .int .i64 0]) ∧ Env wb w' (aO _ bA os :: tl) := by
  obtain ⟨o, ho, _, hu⟩ := hE.mine
  have := pNode h ho hu
  rw [show (((i + 1 : Nat)) : Int) = (i : Int) + 1 by simp] at this
  exact this
theorem pRun (h : Env wb W (aO _ bA os :: stOb _ bK bA (keysO os) (L ++ [(i : Int) + 1]) :: liOb _ bL bA [⟨(i : Int) + 1, 0, own, tokP own⟩] :: tl)) (hE : EndI os own i) (hi : i ≤ 100) (hL : L = (List.range i).map fun (k : Nat) => (k : Int) + 1) (hn : longS own = false) :
    Calls Tryz.prog 8 #[.pointer (some ⟨bA, 0, none⟩), .pointer (some ⟨bK, 0, none⟩), .pointer (some ⟨bL, 0, none⟩), .string own, .bool false] W fun e w' => e = .returned (.tuple #[.bool false, .int .i64 0, .int .i64 0]) ∧ Env wb w' (aO _ bA os :: stOb _ bK bA (keysO os) L :: liOb _ bL bA [] :: tl) := by
  obtain ⟨a1, a2, a3, a4, a5, a6, a7, a8, a9⟩ := hE.all hi hL hn
  have := aRun_closed h a1 (by rw [hE.len]; omega) own false ((i : Int) + 1) (by simp) a2 a3 (by omega) (by rw [a4]; omega) a5 a6 a7
  rw [a4, Int.toNat_natCast, a8, a9] at this
  exact this
theorem pSLen (h : Env wb W (aO _ bA os :: stOb _ bK bA (keysO os) L :: tl)) : Calls Tryz.prog 13 #[.pointer (some ⟨bK, 0, none⟩)] W fun e w' => e = .returned (.int .i64 L.length) ∧ W = w' := env_len (j := 1) h rfl
theorem pLLen (h : Env wb W (aO _ bA os :: stOb _ bK bA (keysO os) L :: liOb _ bL bA es :: tl)) : Calls Tryz.prog 16 #[.pointer (some ⟨bL, 0, none⟩)] W fun e w' => e = .returned (.int .i64 es.length) ∧ W = w' := env_llen (j := 2) h rfl
theorem pALen (h : Env wb W (aO _ bA os :: tl)) : Calls Tryz.prog 12 #[.pointer (some ⟨bA, 0, none⟩)] W fun e w' => e = .returned (.int .i64 os.length) ∧ W = w' := alen_any (i := 0) h rfl
end
end Go.Proofs.YtkakncngkmoegaaGreat
