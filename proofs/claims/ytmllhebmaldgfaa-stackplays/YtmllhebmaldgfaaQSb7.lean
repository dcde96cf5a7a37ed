/-
  Whatever number is looked at.
-/
import Derived.Test.YtmllhebmaldgfaaQSb5
import Derived.Test.YtmllhebmaldgfaaQSb6
namespace Go.Proofs.Ytmllhebmaldgfaa
open Go.RowKit

/-- Is the element of a number a border of that kind? -/
def borK (ks : List Key) (id j : Int) : Bool := (elOf ks id).isSome && borderM (calOf ks id) j
/-- What look tells of a number. -/
def knownV (ks : List Key) (id : Int) : Value := .agg #[.int .i64 (calOf ks id).space, .string (calOf ks id).name, .bool (borK ks id 0), .bool (borK ks id 1), .bool (borK ks id 2), .bool (borK ks id 3), .bool (borK ks id 4), .bool (elOf ks id).isSome]
theorem knownV_none {ks : List Key} {id : Int} (h : elOf ks id = none) : knownV ks id = .agg zRow := by
  unfold knownV borK calOf
  rw [h]
  rfl
theorem knownV_some {ks : List Key} {id : Int} {c : Cal} (h : elOf ks id = some c) : knownV ks id = kV c := by
  unfold knownV borK calOf
  rw [h]
  rfl

section
variable {w : World} {base bK bA : Nat} {ks : List Key} {L : List Int} {F FA : Nat → Prop}
theorem look_any (ha : ArK w base bA ks FA) (hs : StkS w base bK bA (elOf ks) L F) (id : Int) : Calls Try.prog 68 #[.pointer (some ⟨bK, 0, none⟩), .int .i64 id] w fun e w' =>
    e = .returned (.tuple #[knownV ks id, .bool (elOf ks id).isSome]) ∧ UpdS F w w' base bK bA (elOf ks) L := by
  by_cases hn : id < 0
  · have h0 : elOf ks id = none := elOf_none (by unfold keyAt; rw [if_neg (by omega)])
    rw [knownV_none h0, h0]
    exact (look_neg hs id hn).mono fun e w' ⟨h1, h2⟩ => ⟨h1, hs.upd h2⟩
  · obtain ⟨i, rfl⟩ : ∃ i : Nat, id = (i : Int) := ⟨id.toNat, by omega⟩
    have hs' := hs
    obtain ⟨bP, bM, p, v, ms, h, hc, rfl, hF⟩ := hs'
    cases he : elOf ks (i : Int) with
    | some c =>
      rw [knownV_some he]
      by_cases hm : ms[i]? = some (some c)
      · exact (look_there h hm).mono fun e w' ⟨h1, h2⟩ => ⟨h1, hs.upd h2⟩
      · obtain ⟨q, hk, hq⟩ : ∃ q, keyAt ks (i : Int) = some q ∧ (if q.kind = 1 then some (Cal.mk q.space q.name) else none) = some c := by
          cases hk : keyAt ks (i : Int) with
          | none => rw [elOf_none hk] at he; cases he
          | some q => exact ⟨q, rfl, (elOf_key hk).symm.trans he⟩
        have hq1 : q.kind = 1 := by
          by_cases h1 : q.kind = 1
          · exact h1
          · rw [if_neg h1] at hq; cases hq
        rw [if_pos hq1] at hq
        cases hq
        have hm1 : i < 32768 := by
          have h1 := (elOf_nat (ks := ks) (id := (i : Int)) (by rw [he]; rfl))
          obtain ⟨j, hj, hjl⟩ := h1
          have := ha.most.1
          omega
        by_cases hi : ms.length ≤ i
        · exact look_new1 ha h hc hF hi hk hq1 hm1
        · obtain ⟨x, hx⟩ : ∃ x, ms[i]? = some x := ⟨_, List.getElem?_eq_getElem (by omega)⟩
          cases x with
          | some d =>
            have := hc i d hx
            rw [he] at this
            cases this
            exact absurd hx hm
          | none => exact look_new2 ha h hc hF hx hk hq1 hm1
    | none =>
      rw [knownV_none he]
      have hno : ∀ {P : Prop}, (keyAt ks (i : Int) = none → P) → (∀ q, keyAt ks (i : Int) = some q → q.kind ≠ 1 → P) → P := fun h1 h2 => by
        cases hk : keyAt ks (i : Int) with
        | none => exact h1 hk
        | some q =>
          refine h2 q hk (fun e => ?_)
          rw [elOf_key hk, if_pos e] at he
          cases he
      by_cases hi : ms.length ≤ i
      · refine hno (fun hk => ?_) (fun q hk hq => ?_)
        · exact (look_no1 ha h hi hk).mono fun e w' ⟨h1, h2⟩ => ⟨h1, hs.upd h2⟩
        · exact (look_no2 ha h hi hk hq).mono fun e w' ⟨h1, h2⟩ => ⟨h1, hs.upd h2⟩
      · obtain ⟨x, hx⟩ : ∃ x, ms[i]? = some x := ⟨_, List.getElem?_eq_getElem (by omega)⟩
        cases x with
        | some d =>
          have := hc i d hx
          rw [he] at this
          cases this
        | none =>
          refine hno (fun hk => ?_) (fun q hk hq => ?_)
          · exact (look_no3 ha h hx hk).mono fun e w' ⟨h1, h2⟩ => ⟨h1, hs.upd h2⟩
          · exact (look_no4 ha h hx hk hq).mono fun e w' ⟨h1, h2⟩ => ⟨h1, hs.upd h2⟩
end
end Go.Proofs.Ytmllhebmaldgfaa
