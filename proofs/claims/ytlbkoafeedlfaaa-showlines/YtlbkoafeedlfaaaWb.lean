/-
  That package show answers at all (the third law's awake).
-/
import Derived.Test.YtlbkoafeedlfaaaSb
namespace Go.Proofs.Ytlbkoafeedlfaaa
open Go.RowKit

def osX : List OneM := (dataO [oneM 0] 2 ⟨#[120]⟩).1
theorem osX_id : (dataO [oneM 0] 2 ⟨#[120]⟩).2.1 = 1 := by decide +kernel
theorem osX_er : (dataO [oneM 0] 2 ⟨#[120]⟩).2.2 = 0 := by decide +kernel
theorem osX_0 : ∃ o, osX[0]? = some o ∧ o.kids = [] := ⟨oneM 0, by rfl, rfl⟩
theorem osX_same : SSI osX osX 1 1 = true := by decide +kernel

set_option maxHeartbeats 1000000 in
theorem awake3_any (w : World) : Calls Try.prog 30 #[] w fun e w' => e = .returned (.bool true) ∧ Below w.heap.size w w' := by
  have HN := hide (new_any w w.heap.size (Nat.le_refl _))
  go_enter Try.func30, Try.ntmps30
  set_option maxRecDepth 10000 in
  go_wp2_with (first
    | (go_at_call 13; refine (unhide HN).mono ?_; rintro e w1 ⟨F, rfl, h1, hb1, hF⟩; have HT := hide (text_sim h1 Sim.new ⟨#[120]⟩); rw [osX_id, osX_er] at HT; have HB1 := hide hb1; have HF := hide hF; clear h1 hb1 hF)
    | (go_at_call 64; refine (unhide HT).mono ?_; rintro e w2 ⟨rfl, ms, ⟨F2, h2, hm2, hF2⟩, hs2⟩; have HB2 := hide ((unhide HB1).trans (hm2.below (unhide HB1).size (unhide HF))); have H2 := hide h2; have HS2 := hide hs2; have HSH : Hid (Calls Try.prog 28 #[.pointer (some ⟨w.heap.size + 3, 0, none⟩), .int .i64 0] w2 fun e w' => e = .returned (.tuple #[.string ⟨#[]⟩, .int .i64 0]) ∧ Below w2.heap.size w2 w') := hide (by
        obtain ⟨o, ho, hk⟩ := osX_0
        obtain ⟨n, hn, _⟩ := hs2.get ho
        have hp := (hs2.kids 0 o ho).path hn
        rw [hk] at hp
        exact show0 h2 (i := 0) hn hp); clear h2 hm2 hF2 hs2)
    | (go_at_call 28; refine (unhide HSH).mono ?_; rintro e w3 ⟨rfl, hb3⟩; have HSA := hide (sameS_any ((unhide H2).below hb3) ((unhide H2).below hb3) (unhide HS2) (unhide HS2) 1 1); rw [show SSI (dataO [oneM 0] 2 ⟨#[120]⟩).1 (dataO [oneM 0] 2 ⟨#[120]⟩).1 1 1 = true from osX_same] at HSA; have HB3 := hide ((unhide HB2).trans (hb3.mono (unhide HB2).size)); clear hb3)
    | (go_at_call 31; refine (unhide HSA).mono ?_; rintro e w4 ⟨rfl, hb4⟩; have HB4 := hide hb4; clear hb4))
  go_ret
  exact ⟨rfl, (unhide HB3).trans ((unhide HB4).mono (unhide HB3).size)⟩

end Go.Proofs.Ytlbkoafeedlfaaa
