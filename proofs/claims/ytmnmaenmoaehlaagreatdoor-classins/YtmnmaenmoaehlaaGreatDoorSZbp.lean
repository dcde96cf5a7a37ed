/-
  A region that draws its order, within a round: out of its plain walk. What the rules of a role are, as functions in memory. What is handed out stays where it lies; a pair of functions stored.
-/
import Derived.Test.YtmnmaenmoaehlaaGreatDoorSZbo
namespace Go.Proofs.YtmnmaenmoaehlaaGreatDoor
open Go.RowKit Go.Lib

theorem rows_in {l n : Nat} {P : Program} {row : String} {args : Array Value} {w : World} {R : Value → World → Prop} (h : Rows P row args w R) : RowsIn (Fence.wide.inRound l) n P row args w R := by
  intro c cs _
  obtain ⟨v, w', r, s⟩ := h c cs
  exact ⟨v, w', r, stepsIn_wide.2 s⟩
theorem upon_in {l n : Nat} {P : Program} {o : Oper} {a : Act} {K : Act → World → Prop} {Q : Exit → Act → World → Prop} {r : Result Next} (h : o.upon P a K Q r) : o.uponIn (Fence.wide.inRound l) n P a K Q r := by
  cases r with
  | ok x w' =>
    cases x with
    | enter f args => exact ⟨fun h => by simp [Fence.wide] at h, CallsIn.inRound l (callsIn_wide.2 h)⟩
    | row rw args => exact ⟨fun h => by simp [Fence.wide] at h, rows_in h⟩
    | round _ _ _ _ _ => exact False.elim h
    | _ => exact h
  | halt x w' => cases x <;> exact h
theorem wpOp_in {l n : Nat} {P : Program} {ops : Array Oper} {Q : Exit → Act → World → Prop} (hnd : ∀ (i : Nat) o c, ops[i]? = some o → o.op ≠ .defer c) (hlo : ¬ LetsOut Q) {i : Nat} {K K' : Act → World → Prop} (hK : ∀ a w, K a w → K' a w) {a : Act} {w : World} (h : wpOp P ops Q i K a w) : wpOpIn (Fence.wide.inRound l) n P ops Q i K' a w := by
  unfold wpOp at h
  unfold wpOpIn
  cases ho : ops[i]? with
  | none => rw [ho] at h; exact hK _ _ h
  | some o =>
    rw [ho] at h
    dsimp only at h ⊢
    split
    · rename_i hw
      rw [if_pos hw] at h
      rcases h with h | h
      · refine ⟨fun _ _ => trivial, ?_⟩
        rw [Oper.semAt_eq _ _ _ (fun c => hnd i o c ho)]
        have h2 : o.wp P a w K' Q := Oper.wp_mono hK h
        exact upon_in h2
      · exact absurd h.2 hlo
    · rename_i hw
      rw [if_neg hw] at h
      exact ⟨fun _ _ => trivial, hK _ _ h⟩
theorem wpAny_in {l n : Nat} {P : Program} {ops : Array Oper} {md : Region.Mode} {Q : Exit → Act → World → Prop} (hnd : ∀ (i : Nat) o c, ops[i]? = some o → o.op ≠ .defer c) (hlo : ¬ LetsOut Q) : ∀ (fuel : Nat) (listed : Array Bool) (a : Act) (w : World), wpAny P md ops Q fuel listed a w → wpAnyIn (Fence.wide.inRound l) n P md ops Q fuel listed a w
  | 0, _, _, _, h => h
  | fuel + 1, _, _, _, h => ⟨h.1, fun i hi => wpOp_in hnd hlo (fun a' w' => wpAny_in hnd hlo fuel _ a' w') (h.2 i hi)⟩
theorem region_in_round {l n : Nat} {P : Program} {id : Nat} {ops : Array Oper} {Q : Exit → Act → World → Prop} {a : Act} {w : World} (hm : P.follows .mixedOrders = true) (hnd : ∀ (i : Nat) o c, ops[i]? = some o → o.op ≠ .defer c) (hlo : ¬ LetsOut Q)
    (h : wpAny P .any ops Q ops.size (Array.replicate ops.size false) a { w with drawn := w.drawn + 1 }) : (Code.region id ops true).wpIn (Fence.wide.inRound l) n P Q a w :=
  wpIn_region_any hm (wpAny_in hnd hlo _ _ _ _ h)
end Go.Proofs.YtmnmaenmoaehlaaGreatDoor

namespace Go.Proofs.YtmnmaenmoaehlaaGreatDoor
open Go.RowKit Go.Lib

def Enters (f : Nat) : Prop := ∀ (args : Array Value) (w : World), (callFunc f args).run Tryz.prog w = .ok (.enter f args) w
structure NodOk (W : World) (n : NodeM) (a : Option Addr) : Prop where
  attrs : AttrsIn W a n.attrs
  few : n.attrs.length ≤ 1024
  data : n.data.size ≤ 1048576
  small : ∀ x ∈ n.attrs, x.name.size ≤ 1048576 ∧ x.val.size ≤ 1048576
  gv : GV W
/-- The two functions of a role's rules. -/
def KindAt (W0 : World) (r : Int) (v1 v2 : Value) : Prop :=
  (∃ f, v1 = .func (.func f) #[] #[] ∧ Enters f ∧ ∀ W n a cap, NodOk W n a → Calls Tryz.prog f #[nodW n a cap] W fun e w' => e = .returned (.bool (ownN r n)) ∧ Below W.heap.size W w') ∧
  (∃ f p, v2 = .func (.func f) #[] #[.pointer (some ⟨p, 0, none⟩)] ∧ Enters f ∧ ∀ W ra rc l, Below W0.heap.size W0 W → RolesIn W ra l → l.length ≤ 1000000 → Calls Tryz.prog f #[.slice ra l.length rc, .pointer (some ⟨p, 0, none⟩)] W fun e w' => e = .returned (.bool (kidsR r l)) ∧ Below W.heap.size W w')
theorem roles_blk {W : World} {b : Nat} {l : List Int} (h : W.heap[b]? = some (.cells (l.map (Value.int .i64)).toArray 74)) : RolesIn W (some ⟨b, 0, none⟩) l := fun i r hi => ⟨b, 0, rfl, by rw [Nat.zero_add, cell_row _ _ _ _ _ _ h]; simp [hi]⟩
theorem roles_nil (W : World) (a : Option Addr) : RolesIn W a [] := fun i r hi => by cases hi
theorem kinds_at {w W0 : World} (hm : Mod (fun k => k = w.heap.size) (kindsW w) W0) (r : Nat) (hr : r ≤ 10) : ∃ cs v1 v2, kindsV w = .agg cs ∧ cs[2 * r]? = some v1 ∧ cs[2 * r + 1]? = some v2 ∧ KindAt W0 r v1 v2 := by
  obtain ⟨hsz, hobj, _⟩ := kindsW_get w
  have hO : ∀ (i : Nat) p, 1 ≤ i → (kindObjs w)[i]? = some p → ∀ W, Below W0.heap.size W0 W → W.heap[w.heap.size + i]? = some p := fun i p hi hp W hW => by
    have h1 := hobj i p hp
    have h2 := (hm.block _ (lt_of_block h1) (by omega)).trans h1
    exact (hW.block _ (lt_of_block h2)).trans h2
  have c0 : ∀ (i : Nat) v t, 1 ≤ i → (kindObjs w)[i]? = some (.cells #[v] t) → ∀ W, Below W0.heap.size W0 W → W.cell? ⟨w.heap.size + i, 0, none⟩ = some v := fun i v t hi hp W hW => cell_row _ _ 0 _ _ _ (hO i _ hi hp W hW)
  match r, hr with
  | 0, _ => exact ⟨_, _, _, rfl, rfl, rfl, ⟨51, rfl, enters_of Tryz.func51 (by kernel_rfl) rfl, fun W n a cap _ => (never_any n a cap W).mono fun _ _ ⟨e1, e2⟩ => ⟨by rw [e1]; rfl, e2⟩⟩, ⟨77, _, rfl, enters_of Tryz.func77 (by kernel_rfl) rfl, fun W ra rc l hW hl hn => (justC_any W ra none rc 0 l [] (w.heap.size + 5) hl (roles_nil W none) (by omega) (c0 5 _ _ (by omega) rfl W hW)).mono fun _ _ ⟨e1, e2⟩ => ⟨by rw [e1]; rfl, e2⟩⟩⟩
  | 1, _ => exact ⟨_, _, _, rfl, rfl, rfl, ⟨53, rfl, enters_of Tryz.func53 (by kernel_rfl) rfl, fun W n a cap _ => (isBare_any n a cap W).mono fun _ _ ⟨e1, e2⟩ => ⟨by rw [e1]; rfl, e2⟩⟩, ⟨77, _, rfl, enters_of Tryz.func77 (by kernel_rfl) rfl, fun W ra rc l hW hl hn => (justC_any W ra (some ⟨w.heap.size + 6, 0, none⟩) rc 1 l [2] (w.heap.size + 7) hl (roles_blk (hO 6 _ (by omega) rfl W hW)) (by omega) (c0 7 _ _ (by omega) rfl W hW)).mono fun _ _ ⟨e1, e2⟩ => ⟨by rw [e1]; rfl, e2⟩⟩⟩
  | 2, _ => exact ⟨_, _, _, rfl, rfl, rfl, ⟨53, rfl, enters_of Tryz.func53 (by kernel_rfl) rfl, fun W n a cap _ => (isBare_any n a cap W).mono fun _ _ ⟨e1, e2⟩ => ⟨by rw [e1]; rfl, e2⟩⟩, ⟨77, _, rfl, enters_of Tryz.func77 (by kernel_rfl) rfl, fun W ra rc l hW hl hn => (justC_any W ra (some ⟨w.heap.size + 8, 0, none⟩) rc 2 l [3, 5] (w.heap.size + 9) hl (roles_blk (hO 8 _ (by omega) rfl W hW)) (by omega) (c0 9 _ _ (by omega) rfl W hW)).mono fun _ _ ⟨e1, e2⟩ => ⟨by rw [e1]; rfl, e2⟩⟩⟩
  | 3, _ => exact ⟨_, _, _, rfl, rfl, rfl, ⟨53, rfl, enters_of Tryz.func53 (by kernel_rfl) rfl, fun W n a cap _ => (isBare_any n a cap W).mono fun _ _ ⟨e1, e2⟩ => ⟨by rw [e1]; rfl, e2⟩⟩, ⟨79, _, rfl, enters_of Tryz.func79 (by kernel_rfl) rfl, fun W ra rc l hW hl hn => (atMostC_any W ra rc l 4 (w.heap.size + 10) hl (by omega) (c0 10 _ _ (by omega) rfl W hW)).mono fun _ _ ⟨e1, e2⟩ => ⟨by rw [e1]; rfl, e2⟩⟩⟩
  | 4, _ => exact ⟨_, _, _, rfl, rfl, rfl, ⟨53, rfl, enters_of Tryz.func53 (by kernel_rfl) rfl, fun W n a cap _ => (isBare_any n a cap W).mono fun _ _ ⟨e1, e2⟩ => ⟨by rw [e1]; rfl, e2⟩⟩, ⟨79, _, rfl, enters_of Tryz.func79 (by kernel_rfl) rfl, fun W ra rc l hW hl hn => (atMostC_any W ra rc l 9 (w.heap.size + 11) hl (by omega) (c0 11 _ _ (by omega) rfl W hW)).mono fun _ _ ⟨e1, e2⟩ => ⟨by rw [e1]; rfl, e2⟩⟩⟩
  | 5, _ => exact ⟨_, _, _, rfl, rfl, rfl, ⟨55, rfl, enters_of Tryz.func55 (by kernel_rfl) rfl, fun W n a cap h => (hasPlain_any n a cap W h.attrs h.few (fun x hx => ⟨by have := h.small x hx; omega, by have := h.small x hx; omega⟩) h.gv).mono fun _ _ ⟨e1, e2⟩ => ⟨by rw [e1]; rfl, e2⟩⟩, ⟨75, _, rfl, enters_of Tryz.func75 (by kernel_rfl) rfl, fun W ra rc l hW hl hn => (eachC_any W ra (some ⟨w.heap.size + 3, 0, none⟩) rc 5 l [9, 10, 8, 6, 7] (w.heap.size + 4) hl (roles_blk (hO 3 _ (by omega) rfl W hW)) (by omega) (by decide) (c0 4 _ _ (by omega) rfl W hW)).mono fun _ _ ⟨e1, e2⟩ => ⟨by rw [e1]; rfl, by rw [e2]; exact Below.refl _ _⟩⟩⟩
  | 6, _ => exact ⟨_, _, _, rfl, rfl, rfl, ⟨55, rfl, enters_of Tryz.func55 (by kernel_rfl) rfl, fun W n a cap h => (hasPlain_any n a cap W h.attrs h.few (fun x hx => ⟨by have := h.small x hx; omega, by have := h.small x hx; omega⟩) h.gv).mono fun _ _ ⟨e1, e2⟩ => ⟨by rw [e1]; rfl, e2⟩⟩, ⟨75, _, rfl, enters_of Tryz.func75 (by kernel_rfl) rfl, fun W ra rc l hW hl hn => (eachC_any W ra (some ⟨w.heap.size + 3, 0, none⟩) rc 5 l [9, 10, 8, 6, 7] (w.heap.size + 4) hl (roles_blk (hO 3 _ (by omega) rfl W hW)) (by omega) (by decide) (c0 4 _ _ (by omega) rfl W hW)).mono fun _ _ ⟨e1, e2⟩ => ⟨by rw [e1]; rfl, by rw [e2]; exact Below.refl _ _⟩⟩⟩
  | 7, _ => exact ⟨_, _, _, rfl, rfl, rfl, ⟨55, rfl, enters_of Tryz.func55 (by kernel_rfl) rfl, fun W n a cap h => (hasPlain_any n a cap W h.attrs h.few (fun x hx => ⟨by have := h.small x hx; omega, by have := h.small x hx; omega⟩) h.gv).mono fun _ _ ⟨e1, e2⟩ => ⟨by rw [e1]; rfl, e2⟩⟩, ⟨75, _, rfl, enters_of Tryz.func75 (by kernel_rfl) rfl, fun W ra rc l hW hl hn => (eachC_any W ra (some ⟨w.heap.size + 1, 0, none⟩) rc 3 l [9, 10, 8] (w.heap.size + 2) hl (roles_blk (hO 1 _ (by omega) rfl W hW)) (by omega) (by decide) (c0 2 _ _ (by omega) rfl W hW)).mono fun _ _ ⟨e1, e2⟩ => ⟨by rw [e1]; rfl, by rw [e2]; exact Below.refl _ _⟩⟩⟩
  | 8, _ => exact ⟨_, _, _, rfl, rfl, rfl, ⟨55, rfl, enters_of Tryz.func55 (by kernel_rfl) rfl, fun W n a cap h => (hasPlain_any n a cap W h.attrs h.few (fun x hx => ⟨by have := h.small x hx; omega, by have := h.small x hx; omega⟩) h.gv).mono fun _ _ ⟨e1, e2⟩ => ⟨by rw [e1]; rfl, e2⟩⟩, ⟨75, _, rfl, enters_of Tryz.func75 (by kernel_rfl) rfl, fun W ra rc l hW hl hn => (eachC_any W ra (some ⟨w.heap.size + 1, 0, none⟩) rc 3 l [9, 10, 8] (w.heap.size + 2) hl (roles_blk (hO 1 _ (by omega) rfl W hW)) (by omega) (by decide) (c0 2 _ _ (by omega) rfl W hW)).mono fun _ _ ⟨e1, e2⟩ => ⟨by rw [e1]; rfl, by rw [e2]; exact Below.refl _ _⟩⟩⟩
  | 9, _ => exact ⟨_, _, _, rfl, rfl, rfl, ⟨56, rfl, enters_of Tryz.func56 (by kernel_rfl) rfl, fun W n a cap h => (isPlainText_any n a cap W (by have := h.data; omega) h.gv).mono fun _ _ ⟨e1, e2⟩ => ⟨by rw [e1]; rfl, e2⟩⟩, ⟨77, _, rfl, enters_of Tryz.func77 (by kernel_rfl) rfl, fun W ra rc l hW hl hn => (justC_any W ra none rc 0 l [] (w.heap.size + 12) hl (roles_nil W none) (by omega) (c0 12 _ _ (by omega) rfl W hW)).mono fun _ _ ⟨e1, e2⟩ => ⟨by rw [e1]; rfl, e2⟩⟩⟩
  | 10, _ => exact ⟨_, _, _, rfl, rfl, rfl, ⟨57, rfl, enters_of Tryz.func57 (by kernel_rfl) rfl, fun W n a cap h => (isPlainComment_any n a cap W (by have := h.data; omega) h.gv).mono fun _ _ ⟨e1, e2⟩ => ⟨by rw [e1]; rfl, e2⟩⟩, ⟨77, _, rfl, enters_of Tryz.func77 (by kernel_rfl) rfl, fun W ra rc l hW hl hn => (justC_any W ra none rc 0 l [] (w.heap.size + 13) hl (roles_nil W none) (by omega) (c0 13 _ _ (by omega) rfl W hW)).mono fun _ _ ⟨e1, e2⟩ => ⟨by rw [e1]; rfl, e2⟩⟩⟩
end Go.Proofs.YtmnmaenmoaehlaaGreatDoor

namespace Go.Proofs.YtmnmaenmoaehlaaGreatDoor
open Go.RowKit Go.Lib

theorem cell_put {W : World} {l : Nat} {o : Obj} {r : Loop} (hl : W.heap[l]? = some (.loop r)) {a : Addr} {v : Value} (h : W.cell? a = some v) : (W.putObj l o).cell? a = some v := by
  have hne : a.block ≠ l := fun e => by
    obtain ⟨o2, ho2, hc⟩ := cells_of_cell h
    rw [e, hl] at ho2
    cases ho2
    cases hc
  exact (World.cell?_of_block (World.putObj_heap_other hne)).trans h
theorem AttrsIn.put {W : World} {l : Nat} {o : Obj} {r : Loop} (hl : W.heap[l]? = some (.loop r)) {a : Option Addr} {m : List AttrM} (h : AttrsIn W a m) : AttrsIn (W.putObj l o) a m := ⟨fun i x hi => by
  obtain ⟨b, off, e, c0, c1, c2, c3⟩ := h.cells i x hi
  exact ⟨b, off, e, cell_put hl c0, cell_put hl c1, cell_put hl c2, cell_put hl c3⟩⟩
theorem RowIn.put {W : World} {l : Nat} {o : Obj} {r : Loop} (hl : W.heap[l]? = some (.loop r)) {a : Option Addr} {m : List NodeM} (h : RowIn W a m) : RowIn (W.putObj l o) a m := by
  refine ⟨fun i n hi => ?_, fun i n hi => ?_⟩
  · obtain ⟨b, off, e, hc⟩ := h.cells i n hi
    exact ⟨b, off, e, fun j u hj => cell_put hl (hc j u hj)⟩
  · obtain ⟨ao, cp, e, ha⟩ := h.attrs i n hi
    exact ⟨ao, cp, e, ha.put hl⟩
theorem AX.put {ns : List NodeM} {os : List OneM} (y : FamX) (W : World) (l : Nat) (o : Obj) (r : Loop) (hl : W.heap[l]? = some (.loop r)) (h : AX ns os y W) : AX ns os y (W.putObj l o) := ⟨h.row.put hl, h.attrs.put hl, h.ge, h.kids⟩
theorem AX.below {ns : List NodeM} {os : List OneM} (y : FamX) (W W' : World) (h : AX ns os y W) (hb : Below W.heap.size W W') : AX ns os y W' := ⟨h.row.below hb, h.attrs.below hb, h.ge, h.kids⟩
theorem st_func2 {W : World} {B j : Nat} {cs : Array Value} (f : Fn) (x y : Array Value) (h : W.heap[B]? = some (.cells cs 65)) (hj : j < cs.size) : (store ⟨B, j, none⟩ (.func f x y)).run Tryz.prog W = .ok () (W.setCell ⟨B, j, none⟩ (.func f x y)) := by
  have hc : W.cell? ⟨B, j, none⟩ = some (cs[j]'hj) := by rw [cell_row _ _ _ _ _ _ h]; exact Array.getElem?_eq_getElem hj
  have hf : W.frozen? ⟨B, j, none⟩ = false := by unfold World.frozen?; simp only [h]; simp
  rw [run_store Tryz.prog W ⟨B, j, none⟩ (.func f x y) .plain rfl]
  simp [hc, hf]
/-- What a node that was handed out is besides. -/
theorem AX.ok {ns : List NodeM} {os : List OneM} {y : FamX} {W : World} (h : AX ns os y W) (hs : Sim ns os) (hE : Ext os) (hg : GV W) : NodOk W y.x.n y.a := by
  obtain ⟨nk, o, _, ho, _⟩ := h.ge.node
  have hsm := h.ge.same hs ho
  have hok := hE _ o ho
  refine ⟨h.attrs, by rw [hsm.attrs]; exact hok.few, by rw [hsm.data]; exact hok.short.data, fun x hx => ?_, hg⟩
  rw [hsm.attrs] at hx
  exact hok.short.attrs x hx
theorem AX.few {ns : List NodeM} {os : List OneM} {y : FamX} {W : World} (h : AX ns os y W) (hs : Sim ns os) (hmax : os.length ≤ 32768) : y.l.length ≤ 32768 ∧ y.x.d ≤ 32768 := by
  obtain ⟨o, ho, hk⟩ := h.kids
  have hkk := hs.kids _ o ho
  have h1 := nodup_few ns.length o.kids hkk.nodup hkk.mem
  rw [hs.len] at h1
  have := h.ge.deep
  have := hk.1
  omega
theorem wpIn_rangeFam1 {P : Program} {F : Fence} {n : Nat} {α : Type} {g : Operand} {p s : Tmp} {assign body : Code} {Q : Exit → Act → World → Prop} {a : Act} {w : World}
    (hro : F.round = none) (h1 : 1 ≤ n) {gf : Nat} {lb : Array Value} (hg : a.eval g = .func (.func gf) #[] lb) (hFg : F.fn gf) (eg : ∀ args w, (callFunc gf args).run P w = .ok (.enter gf args) w)
    (e : α → Value) {A : α → World → Prop} (hAp : ∀ x W l o r, W.heap[l]? = some (.loop r) → A x W → A x (W.putObj l o)) (hAb : ∀ x W W', A x W → Below W.heap.size W W' → A x W') {ok : α → Bool} {all : Bool}
    (hseq : ∀ (l : Nat) (J Jx : World → Prop) (W : World), w.heap.size ≤ l → l < W.heap.size → Below w.heap.size w W → (∀ A B, J A → Below W.heap.size A B → J B) → (∀ A, J A → ∃ r, A.heap[l]? = some (.loop r)) →
      (∀ x W1, A x W1 → J W1 → YieldAt F (n - 1 - 1) P l #[e x] W1 fun e W' => (e = .returned (.bool true) ∧ ok x = true ∧ J W' ∧ Mod (· = l) W1 W') ∨ (e = .returned (.bool false) ∧ ok x = false ∧ Jx W')) → J W →
      CallsIn F (n - 1) P gf (#[.func (.yield l) #[] #[]] ++ lb) W fun e W' => (∃ v, e = .returned v) ∧ ((all = true ∧ J W') ∨ (all = false ∧ Jx W')))
    (E : World → Prop) (hEp : ∀ W l o, w.heap.size ≤ l → E W → E (W.putObj l o)) (ob : α → Obj)
    (hassign : ∀ (l : Nat) (x : α) (W : World) (K : Act → World → Prop), K { tmps := (a.tmps.setIfInBounds p (e x)).setIfInBounds s (.pointer (some ⟨W.heap.size, 0, none⟩)), defers := [] } (W.alloc (ob x)) →
      assign.wpIn (F.inRound l) (n - 1 - 1) P (Exit.then K (fun _ _ _ => False)) { tmps := a.tmps.setIfInBounds p (e x), defers := [] } W)
    (hbody : ∀ (l : Nat) (x : α) (b : Nat) (W : World), w.heap.size ≤ l → l < b → W.heap.size = b + 1 → W.heap[b]? = some (ob x) → A x W → Below w.heap.size w W →
      body.wpIn (F.inRound l) (n - 1 - 1) P (fun e _ W' => (e = .normal ∧ ok x = true ∧ Below W.heap.size W W') ∨ (e = .ret ∧ ok x = false ∧ KeepsFrom w.heap.size W W' ∧ E W')) { tmps := (a.tmps.setIfInBounds p (e x)).setIfInBounds s (.pointer (some ⟨b, 0, none⟩)), defers := [] } W)
    (hdone : all = true → ∀ (D : Nat) (W : World), w.heap.size ≤ D → Below w.heap.size w W → W.heap[D]? = some (.deferred (some [])) → Q .normal { a with defers := { target := .collected D, args := #[] } :: a.defers } W)
    (hstop : all = false → ∀ (D : Nat) (W : World), w.heap.size ≤ D → E W → W.heap[D]? = some (.deferred (some [])) → Code.ret.wpIn F n P Q { a with defers := { target := .collected D, args := #[] } :: a.defers } W) :
    (Code.rangeFunc g #[p] assign body).wpIn F n P Q a w :=
  wpIn_rangeFam (encs := fun x => #[e x]) hro h1 hg hFg eg (fun _ => rfl) hAp hAb hseq hEp ob (fun x b => { tmps := (a.tmps.setIfInBounds p (e x)).setIfInBounds s (.pointer (some ⟨b, 0, none⟩)), defers := [] }) (fun l x W K hK => by simpa using hassign l x W K hK) hbody hdone hstop
def noDefer (ops : Array Oper) : Bool := ops.all fun o => match o.op with | .defer _ => false | _ => true
theorem noDefer_spec {ops : Array Oper} (h : noDefer ops = true) (i : Nat) (o : Oper) (c : _) (ho : ops[i]? = some o) : o.op ≠ .defer c := fun e => by
  have h1 := (Array.all_eq_true_iff_forall_mem.1 h) o (Array.mem_of_getElem? ho)
  rw [e] at h1
  cases h1
theorem NodOk.below {W W' : World} {n : NodeM} {a : Option Addr} (h : NodOk W n a) (hb : Below W.heap.size W W') : NodOk W' n a := ⟨h.attrs.below hb, h.few, h.data, h.small, h.gv.below hb⟩
theorem ret_end {w w5 W X : World} (h5 : w5.heap[w.heap.size]? = some (.cells #[.bool false] 4)) (hw : Below w.heap.size w w5) (hB : Below w5.heap.size w5 W) (hX : Below W.heap.size W X) :
    X.cell? ⟨w.heap.size, 0, none⟩ = some (.bool false) ∧ X.frozen? ⟨w.heap.size, 0, none⟩ = false ∧ KeepsFrom w5.heap.size W (X.setCell ⟨w.heap.size, 0, none⟩ (.bool false)) ∧ (X.setCell ⟨w.heap.size, 0, none⟩ (.bool false)).cell? ⟨w.heap.size, 0, none⟩ = some (.bool false) ∧ (X.setCell ⟨w.heap.size, 0, none⟩ (.bool false)).frozen? ⟨w.heap.size, 0, none⟩ = false ∧ Below w.heap.size w (X.setCell ⟨w.heap.size, 0, none⟩ (.bool false)) := by
  have hlt := lt_of_block h5
  have h1 := (hB.block _ hlt).trans h5
  have h2 := (hX.block _ (lt_of_block h1)).trans h1
  have h3 := heap_setCell_same X w.heap.size 0 _ _ (.bool false) h2
  have hx := hw.trans ((hB.trans (hX.mono hB.size)).mono hw.size)
  refine ⟨cell_row _ _ 0 _ _ _ h2, frozen_of_heap h2 0, ⟨?_, fun k o hk ho _ => ?_⟩, cell_row _ _ 0 _ _ _ h3, frozen_of_heap h3 0, hx.setCell (Nat.le_refl _) _⟩
  · have := hX.size
    simpa [World.setCell] using this
  · have hne : k ≠ w.heap.size := by omega
    rw [Below.heap_setCell X ⟨w.heap.size, 0, none⟩ (.bool false) k hne]
    exact (hX.block k (lt_of_block ho)).trans ho
end Go.Proofs.YtmnmaenmoaehlaaGreatDoor
