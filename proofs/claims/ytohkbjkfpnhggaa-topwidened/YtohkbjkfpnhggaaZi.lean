/-
  A draft of ops made as strict as a zone (tighten).
-/
import Derived.Test.YtohkbjkfpnhggaaZh
namespace Go.Proofs.Ytohkbjkfpnhggaa
open Go.RowKit
set_option linter.unusedVariables false
set_option maxRecDepth 100000
/-- The first K cells of a zone as limits. -/
def tgtM (n : Nat) (c : Row) : Nat → Mat → Mat
  | 0, r => r
  | K + 1, r => limM (tgtM n c K r) (K / (n + 1)) (K % (n + 1)) (c K)
end Go.Proofs.Ytohkbjkfpnhggaa

/-
  The contracts of ops at nil zones; joinable.
-/
namespace Go.Proofs.Ytohkbjkfpnhggaa
open Go.RowKit
set_option linter.unusedVariables false
set_option maxRecDepth 100000
/-- A zone's pointer, and how many clocks it has; none: nil. -/
abbrev ZP := Option (Nat × Nat)
def ptrV : ZP → Value
  | none => .pointer none
  | some (b, _) => .pointer (some ⟨b, 0, none⟩)
def ZPs (w : World) (g off : Nat) (l : List ZP) : Prop := ∀ k, k < l.length → w.cell? ⟨g, off + k, none⟩ = some (ptrV (l.getD k none)) ∧ ∀ b m, l.getD k none = some (b, m) → w.cell? ⟨b, 0, none⟩ = some (.int .i64 (m : Int))
def jn (n : Nat) (l : List ZP) : Nat → Int
  | 0 => 0
  | K + 1 => match l.getD K none with
    | some (_, m) => if m = n then jn n l K else 11
    | none => jn n l K
def nn (l : List ZP) : Nat → Bool
  | 0 => true
  | K + 1 => nn l K && (l.getD K none).isSome
theorem nn_false {l : List ZP} : ∀ {k : Nat} (m : Nat), k ≤ m → nn l k = false → nn l m = false := by
  intro k m h e
  induction m with
  | zero => obtain rfl : k = 0 := by omega
            exact e
  | succ m ih =>
    by_cases q : k = m + 1
    · subst q; exact e
    · simp [nn, ih (by omega)]
def joinE (n : Nat) (l : List ZP) : Int := if nn l l.length = true then jn n l l.length else 1
theorem free_nil (v : Value) (w : World) : Calls Try.prog 77 #[.pointer none, v] w fun e w' => e = errOf 1 ∧ w' = w := by
  go_enter Try.func77, Try.ntmps77
  go_wp2_with fail
  exact bodyPost_ret (v := .tuple #[.pointer none, .int .i64 1]) (by simp [results, Try.results77, go_sem]) rfl ⟨rfl, rfl⟩
end Go.Proofs.Ytohkbjkfpnhggaa

/-
  And of the program: what zones have in common.
-/
namespace Go.Proofs.Ytohkbjkfpnhggaa
open Go.RowKit
set_option linter.unusedVariables false
set_option maxRecDepth 100000
theorem tgtM_32 {n : Nat} {c : Row} {r : Mat} (h : R32 r) (hc : C32 c) : ∀ K, R32 (tgtM n c K r)
  | 0 => h
  | K + 1 => limM_32 (tgtM_32 h hc K) (hc K).1
/-- A draft with the limits of the first K zones. -/
def andK (n m : Nat) (zc : Nat → Row) : Nat → Mat → Mat
  | 0, r => r
  | K + 1, r => tgtM n (zc K) m (andK n m zc K r)
theorem andK_32 {n m : Nat} {zc : Nat → Row} {r : Mat} (h : R32 r) (hc : ∀ k, C32 (zc k)) : ∀ K, R32 (andK n m zc K r)
  | 0 => h
  | K + 1 => tgtM_32 (andK_32 h hc K) (hc K) m
end Go.Proofs.Ytohkbjkfpnhggaa

/-
  A draft of ops made as loose as a zone (loosen); Hull of the program.
-/
namespace Go.Proofs.Ytohkbjkfpnhggaa
open Go.RowKit
set_option linter.unusedVariables false
set_option maxRecDepth 100000
/-- The first K cells of a zone let in. -/
def lsM (n : Nat) (c : Row) : Nat → Mat → Mat
  | 0, r => r
  | K + 1, r => upd (lsM n c K r) (K / (n + 1)) (K % (n + 1)) (max (lsM n c K r (K / (n + 1)) (K % (n + 1))) (c K))
theorem lsM_32 {n : Nat} {c : Row} {r : Mat} (h : R32 r) (hc : C32 c) : ∀ K, R32 (lsM n c K r)
  | 0 => h
  | K + 1 => (lsM_32 h hc K).upd (by have := (lsM_32 (n := n) h hc K (K / (n + 1)) (K % (n + 1))).1; omega) (by have := (lsM_32 (n := n) h hc K (K / (n + 1)) (K % (n + 1))).2; have := (hc K).2; omega)
/-- The draft of a hull. -/
def hullK (n m : Nat) (c : Row) (zc : Nat → Row) : Nat → Mat
  | 0 => oR n c m
  | K + 1 => if decide (zc K 0 < 1) = true then hullK n m c zc K else if decide (hullK n m c zc K 0 0 < 1) = true then oR n (zc K) m else lsM n (zc K) m (hullK n m c zc K)
theorem hullK_32 {n m : Nat} {c : Row} {zc : Nat → Row} (h : C32 c) (hc : ∀ k, C32 (zc k)) : ∀ K, R32 (hullK n m c zc K)
  | 0 => oR_32 h
  | K + 1 => by
    unfold hullK
    split
    · exact hullK_32 h hc K
    · split
      · exact oR_32 (hc K)
      · exact lsM_32 (hullK_32 h hc K) (hc K) m
end Go.Proofs.Ytohkbjkfpnhggaa
