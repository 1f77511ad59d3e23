/-
  The order of keys is that of their matrices.
-/
import Derived.Test.YtdceldpcankcaaaKc
import Derived.Test.YtdceldpcankcaaaDk
namespace Go.Proofs.Ytdceldpcankcaaa
open Go.RowKit
set_option linter.unusedVariables false
def keyU (l : List Int) : List UInt8 := l.map fun z => UInt8.ofNat z.toNat
/-- The bytes of the cells from k on. -/
def keyT (c : Row) : Nat → Nat → List Int
  | _, 0 => []
  | k, r + 1 => be4 (c k + 2147483648) ++ keyT c (k + 1) r
theorem keyT_snoc (c : Row) (r : Nat) : ∀ k, keyT c k (r + 1) = keyT c k r ++ be4 (c (k + r) + 2147483648) := by
  induction r with
  | zero => intro k; simp [keyT]
  | succ r ih =>
    intro k
    rw [keyT, ih (k + 1), keyT, List.append_assoc, show k + 1 + r = k + (r + 1) by omega]
theorem keyI_head (n : Nat) (c : Row) (m : Nat) : keyI n c m = (n : Int) :: keyT c 0 m := by
  induction m with
  | zero => rfl
  | succ m ih => rw [keyI, ih, keyT_snoc]; simp
/-- Which of two rows comes first, from k on. -/
def firstLess (c d : Row) : Nat → Nat → Bool
  | _, 0 => false
  | k, r + 1 => if c k < d k then true else if d k < c k then false else firstLess c d (k + 1) r
theorem u8_lt {a b : Int} (a0 : 0 ≤ a) (a1 : a < 256) (b0 : 0 ≤ b) (b1 : b < 256) : (UInt8.ofNat a.toNat < UInt8.ofNat b.toNat) ↔ a < b := by
  rw [UInt8.lt_iff_toNat_lt, UInt8.toNat_ofNat', UInt8.toNat_ofNat']
  omega
theorem u8_eq {a b : Int} (a0 : 0 ≤ a) (a1 : a < 256) (b0 : 0 ≤ b) (b1 : b < 256) : (UInt8.ofNat a.toNat = UInt8.ofNat b.toNat) ↔ a = b := by
  rw [← UInt8.toNat_inj, UInt8.toNat_ofNat', UInt8.toNat_ofNat']
  omega
theorem beq_dec {a b : UInt8} {p : Prop} [Decidable p] (h : a = b ↔ p) : (a == b) = decide p := by
  rw [Bool.eq_iff_iff, beq_iff_eq, decide_eq_true_eq]
  exact h
theorem digits (x : Int) (x0 : 0 ≤ x) (x1 : x < 4294967296) : ∃ a b c d : Int, x / 16777216 % 256 = a ∧ x / 65536 % 256 = b ∧ x / 256 % 256 = c ∧ x % 256 = d ∧ x = a * 16777216 + b * 65536 + c * 256 + d ∧ (0 ≤ a ∧ a < 256) ∧ (0 ≤ b ∧ b < 256) ∧ (0 ≤ c ∧ c < 256) ∧ 0 ≤ d ∧ d < 256 := by
  have h2 : x / 65536 = x / 256 / 256 := by omega
  have h3 : x / 16777216 = x / 256 / 256 / 256 := by omega
  refine ⟨_, _, _, _, rfl, rfl, rfl, rfl, ?_, by omega, by omega, by omega, by omega⟩
  rw [h2, h3]
  omega
theorem less4 (x y : Int) (x0 : 0 ≤ x) (x1 : x < 4294967296) (y0 : 0 ≤ y) (y1 : y < 4294967296) (s t : List Int) :
    Op.bytesLess (keyU (be4 x ++ s)) (keyU (be4 y ++ t)) = if x < y then true else if y < x then false else Op.bytesLess (keyU s) (keyU t) := by
  have l3 := u8_lt (a := x / 16777216 % 256) (b := y / 16777216 % 256) (by omega) (by omega) (by omega) (by omega)
  have l2 := u8_lt (a := x / 65536 % 256) (b := y / 65536 % 256) (by omega) (by omega) (by omega) (by omega)
  have l1 := u8_lt (a := x / 256 % 256) (b := y / 256 % 256) (by omega) (by omega) (by omega) (by omega)
  have l0 := u8_lt (a := x % 256) (b := y % 256) (by omega) (by omega) (by omega) (by omega)
  have e3 := u8_eq (a := x / 16777216 % 256) (b := y / 16777216 % 256) (by omega) (by omega) (by omega) (by omega)
  have e2 := u8_eq (a := x / 65536 % 256) (b := y / 65536 % 256) (by omega) (by omega) (by omega) (by omega)
  have e1 := u8_eq (a := x / 256 % 256) (b := y / 256 % 256) (by omega) (by omega) (by omega) (by omega)
  have e0 := u8_eq (a := x % 256) (b := y % 256) (by omega) (by omega) (by omega) (by omega)
  simp only [keyU, be4, List.cons_append, List.nil_append, List.map_cons, Op.bytesLess, decide_eq_decide.2 l3, decide_eq_decide.2 l2, decide_eq_decide.2 l1, decide_eq_decide.2 l0, beq_dec e3, beq_dec e2, beq_dec e1, beq_dec e0]
  clear l3 l2 l1 l0 e3 e2 e1 e0
  obtain ⟨a3, a2, a1, a0, p3, p2, p1, p0, px, r3, r2, r1, r0⟩ := digits x x0 x1
  obtain ⟨b3, b2, b1, b0, q3, q2, q1, q0, qx, s3, s2, s1, s0⟩ := digits y y0 y1
  rw [p3, p2, p1, p0, q3, q2, q1, q0]
  clear p3 p2 p1 p0 q3 q2 q1 q0
  generalize Op.bytesLess (List.map (fun z => UInt8.ofNat z.toNat) s) (List.map (fun z => UInt8.ofNat z.toNat) t) = q
  split
  · have k : a3 < b3 ∨ (a3 = b3 ∧ (a2 < b2 ∨ (a2 = b2 ∧ (a1 < b1 ∨ (a1 = b1 ∧ a0 < b0))))) := by omega
    simp only [Bool.or_eq_true, Bool.and_eq_true, decide_eq_true_eq]
    rcases k with k | ⟨k, k2 | ⟨k2, k3 | ⟨k3, k4⟩⟩⟩
    · exact .inl k
    · exact .inr ⟨k, .inl k2⟩
    · exact .inr ⟨k, .inr ⟨k2, .inl k3⟩⟩
    · exact .inr ⟨k, .inr ⟨k2, .inr ⟨k3, .inl k4⟩⟩⟩
  · split
    · simp only [Bool.or_eq_false_iff, Bool.and_eq_false_imp, decide_eq_true_eq, decide_eq_false_iff_not]
      omega
    · obtain rfl : a3 = b3 := by omega
      obtain rfl : a2 = b2 := by omega
      obtain rfl : a1 = b1 := by omega
      obtain rfl : a0 = b0 := by omega
      simp
theorem less_key (c d : Row) (r : Nat) : ∀ k, (∀ j, k ≤ j → j < k + r → (-2147483648 ≤ c j ∧ c j ≤ 2147483647) ∧ (-2147483648 ≤ d j ∧ d j ≤ 2147483647)) → Op.bytesLess (keyU (keyT c k r)) (keyU (keyT d k r)) = firstLess c d k r := by
  induction r with
  | zero => intro k h; rfl
  | succ r ih =>
    intro k h
    obtain ⟨⟨a0, a1⟩, b0, b1⟩ := h k (Nat.le_refl _) (by omega)
    rw [keyT, keyT, less4 _ _ (by omega) (by omega) (by omega) (by omega), ih (k + 1) (fun j h1 h2 => h j (by omega) (by omega)), firstLess]
    repeat' split
    all_goals first | rfl | (exfalso; omega)
/-- The keys of one number of clocks, in order. -/
theorem less_keys (n m : Nat) (c d : Row) (h : ∀ j, j < m → (-2147483648 ≤ c j ∧ c j ≤ 2147483647) ∧ (-2147483648 ≤ d j ∧ d j ≤ 2147483647)) :
    Op.bytesLess (keyU (keyI n c m)) (keyU (keyI n d m)) = firstLess c d 0 m := by
  rw [keyI_head, keyI_head, ← less_key c d m 0 (fun j _ hj => h j (by omega))]
  simp [keyU, Op.bytesLess]
end Go.Proofs.Ytdceldpcankcaaa
