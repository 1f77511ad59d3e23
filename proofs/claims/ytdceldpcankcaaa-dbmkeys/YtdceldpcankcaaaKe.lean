/-
  The walk of the statement DbmKeys, where both are zones.
-/
import Derived.Test.YtdceldpcankcaaaKb
import Derived.Test.YtdceldpcankcaaaKd
import Derived.Laws.IdiomStrings
namespace Go.Proofs.Ytdceldpcankcaaa
open Go.RowKit
set_option linter.unusedVariables false
set_option maxRecDepth 100000
theorem first_skip (c d : Row) (t : Nat) : ∀ k r, (∀ j, k ≤ j → j < k + t → c j = d j) → firstLess c d k (t + r) = firstLess c d (k + t) r := by
  induction t with
  | zero => intro k r h; simp
  | succ t ih =>
    intro k r h
    have e := h k (Nat.le_refl _) (by omega)
    rw [show t + 1 + r = (t + r) + 1 by omega, firstLess, if_neg (by omega), if_neg (by omega), ih (k + 1) r (fun j a b => h j (by omega) (by omega)), show k + 1 + t = k + (t + 1) by omega]
theorem first_at (c d : Row) (I m : Nat) (h : ∀ j, j < I → c j = d j) (hI : I < m) : firstLess c d 0 m = if c I < d I then true else if d I < c I then false else firstLess c d (I + 1) (m - I - 1) := by
  have := first_skip c d I 0 (m - I - 1 + 1) (fun j _ hj => h j (by omega))
  rw [show I + (m - I - 1 + 1) = m by omega, Nat.zero_add, firstLess] at this
  exact this
theorem first_all (c d : Row) (m : Nat) (h : ∀ j, j < m → c j = d j) : firstLess c d 0 m = false := by
  have := first_skip c d m 0 0 (fun j _ hj => h j (by omega))
  rw [Nat.add_zero] at this
  rw [this]
  rfl
theorem be4_inj (x y : Int) (x0 : 0 ≤ x) (x1 : x < 4294967296) (y0 : 0 ≤ y) (y1 : y < 4294967296) (s t : List Int) : keyU (be4 x ++ s) = keyU (be4 y ++ t) ↔ x = y ∧ keyU s = keyU t := by
  have e3 := u8_eq (a := x / 16777216 % 256) (b := y / 16777216 % 256) (by omega) (by omega) (by omega) (by omega)
  have e2 := u8_eq (a := x / 65536 % 256) (b := y / 65536 % 256) (by omega) (by omega) (by omega) (by omega)
  have e1 := u8_eq (a := x / 256 % 256) (b := y / 256 % 256) (by omega) (by omega) (by omega) (by omega)
  have e0 := u8_eq (a := x % 256) (b := y % 256) (by omega) (by omega) (by omega) (by omega)
  obtain ⟨a3, a2, a1, a0, p3, p2, p1, p0, px, r3, r2, r1, r0⟩ := digits x x0 x1
  obtain ⟨b3, b2, b1, b0, q3, q2, q1, q0, qx, s3, s2, s1, s0⟩ := digits y y0 y1
  simp only [keyU, be4, List.cons_append, List.nil_append, List.map_cons, List.cons.injEq, e3, e2, e1, e0]
  rw [p3, p2, p1, p0, q3, q2, q1, q0]
  constructor
  · rintro ⟨rfl, rfl, rfl, rfl, h⟩
    exact ⟨by omega, h⟩
  · rintro ⟨rfl, h⟩
    exact ⟨by omega, by omega, by omega, by omega, h⟩
theorem keyT_eq (c d : Row) (r : Nat) : ∀ k, (∀ j, k ≤ j → j < k + r → (-2147483648 ≤ c j ∧ c j ≤ 2147483647) ∧ (-2147483648 ≤ d j ∧ d j ≤ 2147483647)) → (keyU (keyT c k r) = keyU (keyT d k r) ↔ ∀ j, k ≤ j → j < k + r → c j = d j) := by
  induction r with
  | zero => intro k h; exact ⟨fun _ j a b => by omega, fun _ => rfl⟩
  | succ r ih =>
    intro k h
    obtain ⟨⟨a0, a1⟩, b0, b1⟩ := h k (Nat.le_refl _) (by omega)
    rw [keyT, keyT, be4_inj _ _ (by omega) (by omega) (by omega) (by omega), ih (k + 1) (fun j h1 h2 => h j (by omega) (by omega))]
    constructor
    · rintro ⟨e, f⟩ j h1 h2
      by_cases q : j = k
      · subst q; omega
      · exact f j (by omega) (by omega)
    · intro f
      exact ⟨by have := f k (Nat.le_refl _) (by omega); omega, fun j h1 h2 => f j (by omega) (by omega)⟩
theorem keys_eq (n m : Nat) (c d : Row) (m81 : m ≤ 81) (h : ∀ j, j < m → (-2147483648 ≤ c j ∧ c j ≤ 2147483647) ∧ (-2147483648 ≤ d j ∧ d j ≤ 2147483647)) (hz : ∀ j, m ≤ j → c j = d j) :
    (keyU (keyI n c m) == keyU (keyI n d m)) = eqUpto c d 81 := by
  rw [Bool.eq_iff_iff, beq_iff_eq, keyI_head, keyI_head]
  have k := keyT_eq c d m 0 (fun j _ hj => h j (by omega))
  simp only [keyU, List.map_cons, List.cons.injEq, true_and] at k ⊢
  rw [k]
  simp only [eqUpto, List.all_eq_true, List.mem_range, beq_iff_eq]
  constructor
  · intro f j hj
    by_cases q : j < m
    · exact f j (by omega) (by omega)
    · exact hz j (by omega)
  · intro f j _ hj
    exact f j (by omega)
end Go.Proofs.Ytdceldpcankcaaa
