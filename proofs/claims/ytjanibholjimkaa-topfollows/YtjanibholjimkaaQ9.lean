/-
  The contracts of Zone.Cells, Includes, Equal, Key.
-/
import Derived.Test.YtjanibholjimkaaQ8
import Derived.OwnWalk
import Derived.Laws.AppendOwn
import Derived.Laws.BitsLemmas
import Derived.Deep.MidRow
import Derived.Laws.StructEq
import Derived.Laws.OwnMore
namespace Go.Proofs.Ytjanibholjimkaa
open Go.RowKit
set_option linter.unusedVariables false
set_option maxRecDepth 100000
theorem info_bd : (Try.prog.info? 32).map (fun i => (i.zero, i.size, i.bytes)) = some (some (.int .i32 0), 1, 4) := by kernel_rfl
/-- The used cells, as a list. -/
def listOf (c : Row) (m : Nat) : List Int := (List.range m).map c
theorem listOf_len (c : Row) (m : Nat) : (listOf c m).length = m := by simp [listOf]
theorem listOf_get (c : Row) (m j : Nat) (h : j < m) : (listOf c m).getD j 0 = c j := by simp [listOf, List.getD, h]
/-- A row that the call made itself. -/
def OwnRow (w : World) (B : Nat) (v : Value) (l : List Int) : Prop := ∃ g cap, v = .slice (some ⟨g, 0, none⟩) l.length cap ∧ B ≤ g ∧ g < w.heap.size ∧ RowAt w g 0 l
set_option maxHeartbeats 1000000 in
theorem cells_any (b n : Nat) (c : Row) (w : World) (hz : ZoneAt w b n c) (hn : n ≤ 8) :
    Calls Try.prog 48 #[.pointer (some ⟨b, 0, none⟩)] w fun e w' => (∃ v, e = .returned v ∧ OwnRow w' w.heap.size v (listOf c ((n + 1) * (n + 1)))) ∧ Below w.heap.size w w' := by
  have HU := hideD (used_any b n w hn hz.clocks)
  have hm : (n + 1) * (n + 1) ≤ 81 := Nat.mul_le_mul (show n + 1 ≤ 9 by omega) (show n + 1 ≤ 9 by omega)
  have hp : 0 < (n + 1) * (n + 1) := Nat.mul_pos (by omega) (by omega)
  generalize (n + 1) * (n + 1) = m at *
  have hl := listOf_len c m
  obtain ⟨i0, hi, hz0, hz1, hz2⟩ := info_parts info_bd
  have HZ := hideD hz
  clear hz
  go_enter Try.func48, Try.ntmps48
  go_wp2_with fail
  refine HU.out.mono ?_
  rintro e w1 ⟨rfl, hb⟩
  have hZ1 := hideD (HZ.out.past hb)
  have hB1 := hideD hb
  have HN : Hid (∀ j u, ((listOf c m).map (Value.int .i32))[j]? = some u → w1.cell? ((⟨b, 1, none⟩ : Addr).add j) = some u) := by
    intro j u hu
    rw [Addr.add_lit]
    by_cases hj : j < m
    · rw [hZ1.out.cell j (by omega)]
      simp [listOf, hj] at hu
      simp [hu]
    · rw [List.getElem?_eq_none (by simp [hl]; omega)] at hu
      cases hu
  clear hb HU HZ
  go_wp2_with (at_builtin; refine wpList_append_own _ rfl _ _ 93 rfl w1.heap.size 32 i0 (.int .i32 0) 1 4 Try.underlying93 hi hz0 hz1 hz2 rfl (by decide) _ 0 [] rfl (World.ownsRow_nil _ _ _ _) ⟨b, 1, none⟩ m 81 ((listOf c m).map (Value.int .i32)) rfl (by simp [hl]) HN.out (fun x hx => by obtain ⟨z, _, rfl⟩ := List.mem_map.1 hx; rfl) (by unfold maxLen; omega) (by omega) (Nat.le_refl _) ?_; intro v' w2 hown hgrow hnil)
  have hb2 : Below w1.heap.size w1 w2 := (Below.refl _ _).grown hgrow (Nat.le_refl _) (by intro k hk; cases hk)
  go_ret
  refine ⟨⟨v', rfl, ?_⟩, beyondD hB1.out hb2⟩
  rcases hown.2 with ⟨rfl, hn0⟩ | ⟨g, cap, cur, rfl, hg, h2, h3, h4, h5, h6⟩
  · exfalso
    simp at hn0
    omega
  · have hrow : RowAt w2 g 0 (listOf c m) := fun j hj => by
      have hc := World.ownsRow.cells hown (g := g) rfl j (.int .i32 ((listOf c m).getD j 0)) (by simp [List.getD, hj])
      rw [Addr.add_lit] at hc
      exact hc
    refine ⟨g, cap, by rw [hl]; simp, Nat.le_trans hB1.out.size hg, ?_, hrow⟩
    exact World.block_lt_of_cell? _ _ (hrow 0 (by rw [hl]; exact hp))
end Go.Proofs.Ytjanibholjimkaa

/-
  The document's answer for layer 3: the sum of two wide bounds, and the wide cells of a row.
-/
namespace Go.Proofs.Ytjanibholjimkaa
open Go.RowKit
set_option linter.unusedVariables false
set_option maxRecDepth 100000
theorem i64_and1 (n : Int) : bits .and .i64 n 1 = n % 2 := by
  have h1 : (BitVec.ofInt 64 1).toNat = 2 ^ 1 - 1 := by decide
  have key : (BitVec.ofInt 64 n &&& BitVec.ofInt 64 1).toNat = (n % ((2 ^ 64 : Nat) : Int)).toNat % 2 ^ 1 := by
    rw [BitVec.toNat_and, BitVec.toNat_ofInt, h1, Nat.and_two_pow_sub_one_eq_mod]
  show IntKind.i64.wrap ((BitVec.ofInt 64 n &&& BitVec.ofInt 64 1).toNat : Nat) = n % 2
  rw [key, IntKind.wrap_i64]
  omega
theorem i64_or_odd (a b : Int) : bits .or .i64 a b % 2 = if a % 2 = 1 ∨ b % 2 = 1 then 1 else 0 := by
  have key : (BitVec.ofInt 64 a ||| BitVec.ofInt 64 b).toNat % 2 = 1 ↔ (a % ((2 ^ 64 : Nat) : Int)).toNat % 2 = 1 ∨ (b % ((2 ^ 64 : Nat) : Int)).toNat % 2 = 1 := by
    rw [BitVec.toNat_or, BitVec.toNat_ofInt, BitVec.toNat_ofInt, Nat.or_mod_two_eq_one]
  show IntKind.i64.wrap ((BitVec.ofInt 64 a ||| BitVec.ofInt 64 b).toNat : Nat) % 2 = _
  rw [IntKind.wrap_i64]
  generalize (BitVec.ofInt 64 a ||| BitVec.ofInt 64 b).toNat = x at *
  split <;> omega
end Go.Proofs.Ytjanibholjimkaa

/-
  The document's answer for layer 3: the closed form of wide cells.
-/
namespace Go.Proofs.Ytjanibholjimkaa
open Go.RowKit
set_option linter.unusedVariables false
set_option maxRecDepth 100000
theorem pos_inj {n i j a c : Nat} (hj : j ≤ n) (hc : c ≤ n) (h : i * (n + 1) + j = a * (n + 1) + c) : i = a ∧ j = c := by
  have h1 : (i * (n + 1) + j) / (n + 1) = i := by rw [Nat.mul_comm, Nat.mul_add_div (by omega), Nat.div_eq_of_lt (by omega)]; rfl
  have h2 : (a * (n + 1) + c) / (n + 1) = a := by rw [Nat.mul_comm, Nat.mul_add_div (by omega), Nat.div_eq_of_lt (by omega)]; rfl
  have e : i = a := by rw [← h1, h, h2]
  subst e
  exact ⟨rfl, by omega⟩
theorem pos_lt {n i j : Nat} (hi : i ≤ n) (hj : j ≤ n) : i * (n + 1) + j < (n + 1) * (n + 1) := by
  have := Nat.mul_le_mul_right (n + 1) (show i + 1 ≤ n + 1 by omega)
  rw [Nat.add_mul] at this
  omega
def rcStep (k i j : Nat) (r : Mat) : Mat := if dplus (r i k) (r k j) < r i j then upd r i j (dplus (r i k) (r k j)) else r
def rcRow (k i : Nat) : Nat → Mat → Mat
  | 0, r => r
  | c + 1, r => rcStep k i c (rcRow k i c r)
def rcAll (k n : Nat) : Nat → Mat → Mat
  | 0, r => r
  | c + 1, r => rcRow k c (n + 1) (rcAll k n c r)
end Go.Proofs.Ytjanibholjimkaa
