/-
  Lists of fractions in memory.
-/
import Derived.Test.YtohkbjkfpnhggaaZu
import Derived.Deep.OwnRows
namespace Go.Proofs.Ytohkbjkfpnhggaa
open Go.RowKit Go.Shelf
set_option linter.unusedVariables false
/-- A list of fractions. -/
structure Rats where
  q : Nat
  n : Nat → Int
  d : Nat → Int
/-- They lie in memory, two cells each, behind a slice's address. -/
def RatV (w : World) (ad : Option Addr) (L : Rats) : Prop := ∀ k, k < L.q → ∃ b off, ad = some ⟨b, off, none⟩ ∧ w.cell? ⟨b, off + k * 2, none⟩ = some (.int .i64 (L.n k)) ∧ w.cell? ⟨b, off + k * 2 + 1, none⟩ = some (.int .i64 (L.d k))
theorem RatV.later {w w' : World} {ad : Option Addr} {L : Rats} (h : RatV w ad L) (hb : Below w.heap.size w w') : RatV w' ad L := fun k hk => by
  obtain ⟨b, off, e, c1, c2⟩ := h k hk
  exact ⟨b, off, e, kc _ _ hb c1, kc _ _ hb c2⟩
/-- Numbers that may be. -/
def RatI (L : Rats) : Prop := ∀ k, k < L.q → I64 (L.n k) ∧ I64 (L.d k)
theorem info_rat : (Try.prog.info? 58).map (fun i => (i.zero, i.size, i.bytes)) = some (some (.agg #[.int .i64 0, .int .i64 0]), 2, 16) := by kernel_rfl
end Go.Proofs.Ytohkbjkfpnhggaa
