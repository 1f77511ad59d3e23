/-
  live of layer 8.
-/
import Derived.Test.YtgidlgmnkjoofaaDoorPl
namespace Go.Proofs.YtgidlgmnkjoofaaDoor
open Go.RowKit
set_option linter.unusedVariables false
def liveL : List Node := [(4, 0), (1, 1), (6, 0), (2, 0), (1, 2)]
theorem live_worth : worthT 1 [3] liveL = (7, 0) := by decide +kernel
theorem live_print : printT [str [110]] liveL = (str [49, 32, 43, 32, 110, 32, 42, 32, 50], 0) := by decide +kernel
theorem live_right : rightE 0 liveL = 121 := by decide +kernel
theorem rowV_new (w : World) (a : Array Value) (t : TypeId) : RowV (w.alloc (.cells a t)) (some ⟨w.heap.size, 0, none⟩) a.toList := fun j u q => ⟨w.heap.size, 0, rfl, by
  rw [World.cell?_alloc_at _ _ _ _ rfl, Nat.zero_add]
  simpa using q⟩
set_option maxRecDepth 100000 in
set_option maxHeartbeats 2000000 in
theorem live_any (w : World) (hT : OpsT w) (hP : Pow w) : Calls Tryd.prog 7 #[] w fun e w' => e = .returned (.bool true) ∧ Below w.heap.size w w' := by
  have HT := hideR hT
  have HP := hideR hP
  clear hT hP
  have HL : Hid (∀ x ∈ liveL, x.1 < 256) := by
    show ∀ x ∈ liveL, x.1 < 256
    decide
  have VA : Hid (∀ W ad cap va vc, OpsT W → RowV W ad (liveL.flatMap NodeC) → RowV W va ([(3 : Int)].flatMap IntC) → Calls Tryd.prog 18 #[.slice ad 5 cap, .slice va 1 vc] W fun e w' => e = .returned (.tuple #[.int .i64 7, .int .i64 0]) ∧ Below W.heap.size W w') := by
    intro W ad cap va vc h1 h2 h3
    have := value_any ad cap liveL va vc [3] W h1 h2 HL.out h3 (by decide)
    rw [live_worth] at this
    exact this
  have PA : Hid (∀ W ad cap va vc, OpsT W → Pow W → RowV W ad (liveL.flatMap NodeC) → RowV W va ([str [110]].flatMap StrC) → Calls Tryd.prog 19 #[.slice ad 5 cap, .slice va 1 vc] W fun e w' => e = .returned (.tuple #[.string (str [49, 32, 43, 32, 110, 32, 42, 32, 50]), .int .i64 0]) ∧ Below W.heap.size W w') := by
    intro W ad cap va vc h1 h0 h2 h3
    have := print_any ad cap liveL va vc [str [110]] W h1 h0 h2 HL.out h3 (by decide)
    rw [live_print] at this
    exact this
  have RA : Hid (∀ W ad cap, OpsT W → RowV W ad (liveL.flatMap NodeC) → Calls Tryd.prog 20 #[.slice ad 5 cap, .int .i64 0] W fun e w' => e = .returned (.int .i64 121) ∧ Below W.heap.size W w') := by
    intro W ad cap h1 h2
    have := right_any ad cap liveL 0 W h1 h2 HL.out
    rw [live_right] at this
    exact this
  clear HL
  go_enter Tryd.func7, Tryd.ntmps7
  go_wp2_with fail
  have R0 := hideR (rowV_new w #[.int .u8 4, .int .i64 0, .int .u8 1, .int .i64 1, .int .u8 6, .int .i64 0, .int .u8 2, .int .i64 0, .int .u8 1, .int .i64 2] 54)
  have S0 := hideR (single w (.cells #[.int .u8 4, .int .i64 0, .int .u8 1, .int .i64 1, .int .u8 6, .int .i64 0, .int .u8 2, .int .i64 0, .int .u8 1, .int .i64 2] 54))
  have SZ : (w.alloc (.cells #[.int .u8 4, .int .i64 0, .int .u8 1, .int .i64 1, .int .u8 6, .int .i64 0, .int .u8 2, .int .i64 0, .int .u8 1, .int .i64 2] 54)).heap.size = w.heap.size + 1 := by simp
  generalize w.alloc (.cells #[.int .u8 4, .int .i64 0, .int .u8 1, .int .i64 1, .int .u8 6, .int .i64 0, .int .u8 2, .int .i64 0, .int .u8 1, .int .i64 2] 54) = W0 at *
  rw [← SZ]
  clear SZ
  have S1 := hideR (single W0 (.cells #[.int .i64 3] 3))
  refine (VA.out _ _ _ _ _ (ops_later HT.out (beyond S0.out S1.out)) (R0.out.later S1.out) (rowV_new W0 #[.int .i64 3] 3)).mono ?_
  rintro e w1 ⟨rfl, hb⟩
  have B1 := hideR (beyond S1.out hb)
  clear hb S1 VA
  go_wp2_with fail
  have S2 := hideR (single w1 (.cells #[.string ⟨#[110]⟩] 9))
  have B2 := hideR (beyond B1.out S2.out)
  refine (PA.out _ _ _ _ _ (ops_later HT.out (beyond S0.out B2.out)) (pow_later HP.out (beyond S0.out B2.out)) (R0.out.later B2.out) (rowV_new w1 #[.string ⟨#[110]⟩] 9)).mono ?_
  rintro e w2 ⟨rfl, hb⟩
  have B3 := hideR (beyond B2.out hb)
  clear hb S2 PA B1 B2
  go_wp2_with fail
  refine (RA.out _ _ _ (ops_later HT.out (beyond S0.out B3.out)) (R0.out.later B3.out)).mono ?_
  rintro e w3 ⟨rfl, hb⟩
  have B4 := hideR (beyond S0.out (beyond B3.out hb))
  clear hb RA B3
  go_wp2_with fail
  go_ret
  exact ⟨rfl, B4.out⟩
end Go.Proofs.YtgidlgmnkjoofaaDoor
