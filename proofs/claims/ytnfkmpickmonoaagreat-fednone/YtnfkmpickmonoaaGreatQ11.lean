/-
  The contracts of alike, Zone.Equal, Includes.
-/
import Derived.Test.YtnfkmpickmonoaaGreatQ10
import Derived.Deep.MidRow
import Derived.Laws.StructEq
namespace Go.Proofs.YtnfkmpickmonoaaGreat
open Go.RowKit
set_option linter.unusedVariables false
set_option maxRecDepth 100000
theorem alike_raw (b o : Nat) (n m : Int) (w : World) (h1 : w.cell? ⟨b, 0, none⟩ = some (.int .i64 n)) (h2 : w.cell? ⟨o, 0, none⟩ = some (.int .i64 m)) :
    Calls Tryz.prog 106 #[.pointer (some ⟨b, 0, none⟩), .pointer (some ⟨o, 0, none⟩)] w fun e w' => e = .returned (.bool (n == m)) ∧ ∃ k, w' = w.drewN k := by
  go_enter Tryz.func106, Tryz.ntmps106
  go_wp2_with fail
  go_quiet (fail)
  go_wp2_with fail
  go_ret
  exact ⟨rfl, _, rfl⟩
theorem alike_same (b o n : Nat) (c d : Row) (w : World) (hz : ZoneAt w b n c) (hy : ZoneAt w o n d) :
    Calls Tryz.prog 106 #[.pointer (some ⟨b, 0, none⟩), .pointer (some ⟨o, 0, none⟩)] w fun e w' => e = .returned (.bool true) ∧ ∃ k, w' = w.drewN k := by
  have := alike_raw b o n n w hz.clocks hy.clocks
  simpa using this
end Go.Proofs.YtnfkmpickmonoaaGreat
