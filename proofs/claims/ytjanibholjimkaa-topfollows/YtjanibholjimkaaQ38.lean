/-
  The contract of math/bits.Div64: for every two words and a divisor above the first it returns the quotient and the rest; the world stays.
-/
import Derived.Test.YtjanibholjimkaaQ33
import Derived.Test.YtjanibholjimkaaQ37
namespace Go.Proofs.Ytjanibholjimkaa
open Go.RowKit Go.Shelf
set_option linter.unusedVariables false

set_option maxRecDepth 100000 in
set_option maxHeartbeats 8000000 in
theorem div_walk (hi lo y s Y y1 y0 u t v1 v0 Q1 R1 Q0 R0 : Int) (w : World) (h0 : 0 < hi) (h1 : hi < y) (s0 : 0 ≤ s) (s1 : s ≤ 63)
    (y10 : 2147483648 ≤ y1) (y11 : y1 < 4294967296)
    (HY : Hid (0 < Y ∧ Y = y1 * 4294967296 + y0)) (HY0 : Hid (0 ≤ y0 ∧ y0 < 4294967296)) (HVv1 : Hid (0 ≤ v1 ∧ v1 < 4294967296)) (HVv0 : Hid (0 ≤ v0 ∧ v0 < 4294967296))
    (HQ1 : Hid (Q1 = (u * 4294967296 + v1) / Y)) (HQ0 : Hid (Q0 = (R1 * 4294967296 + v0) / Y)) (HTQ1 : Hid (Q1 < 4294967296)) (HTQ0 : Hid (Q0 < 4294967296)) (HNQ1 : Hid (0 ≤ Q1)) (HNQ0 : Hid (0 ≤ Q0))
    (HS1 : Hid (0 ≤ u / y1 ∧ u / y1 ≤ 4294967297 ∧ 0 ≤ u % y1 ∧ u % y1 < 4294967296 ∧ u / y1 * y1 + u % y1 = u ∧ Q1 ≤ u / y1))
    (HS0 : Hid (0 ≤ R1 / y1 ∧ R1 / y1 ≤ 4294967297 ∧ 0 ≤ R1 % y1 ∧ R1 % y1 < 4294967296 ∧ R1 / y1 * y1 + R1 % y1 = R1 ∧ Q0 ≤ R1 / y1))
    (HL : Hid (∀ w, Calls Try.prog 70 #[.int .u64 y] w fun e w' => e = .returned (.int .i64 s) ∧ w' = w))
    (eY : IntKind.u64.wrap (y * 2 ^ s.toNat) = Y) (eY1 : Y / 4294967296 = y1) (eY0 : bits BinOp.and IntKind.u64 Y 4294967295 = y0)
    (eU : bits BinOp.or IntKind.u64 (IntKind.u64.wrap (hi * 2 ^ s.toNat)) (lo / 2 ^ (64 - s).toNat) = u)
    (eT : IntKind.u64.wrap (lo * 2 ^ s.toNat) = t) (eV1 : t / 4294967296 = v1) (eV0 : bits BinOp.and IntKind.u64 t 4294967295 = v0)
    (eQ : IntKind.u64.wrap (u.tdiv y1) = u / y1) (eR : IntKind.u64.wrap (u - IntKind.u64.wrap (u / y1 * y1)) = u % y1)
    (rR1 : IntKind.u64.wrap (IntKind.u64.wrap (IntKind.u64.wrap (u * 4294967296) + v1) - IntKind.u64.wrap (Q1 * Y)) = R1)
    (eQ0 : IntKind.u64.wrap (R1.tdiv y1) = R1 / y1) (eR0 : IntKind.u64.wrap (R1 - IntKind.u64.wrap (R1 / y1 * y1)) = R1 % y1)
    (rF : IntKind.u64.wrap (IntKind.u64.wrap (Q1 * 4294967296) + Q0) = Q1 * 4294967296 + Q0)
    (rF2 : IntKind.u64.wrap (Q1 * 4294967296 + Q0) = Q1 * 4294967296 + Q0)
    (rR : IntKind.u64.wrap (IntKind.u64.wrap (IntKind.u64.wrap (R1 * 4294967296) + v0) - IntKind.u64.wrap (Q0 * Y)) = R0) :
    Calls Try.prog 61 #[.int .u64 hi, .int .u64 lo, .int .u64 y] w fun e w' => e = .returned (.tuple #[.int .u64 (Q1 * 4294967296 + Q0), .int .u64 (R0 / 2 ^ s.toNat)]) ∧ w' = w := by
  have a1 : (y == 0) = false := by simp; omega
  have a2 : decide (y ≤ hi) = false := by simp; omega
  have a3 : (hi == 0) = false := by simp; omega
  have a4 : ¬ y1 = 0 := by omega
  go_enter Try.func61, Try.ntmps61
  go_wp2_with fail
  refine (HL.out _).mono ?_
  rintro e w' ⟨rfl, rfl⟩
  clear h0 h1 HL
  go_wp2_with fail
  go_loop [15, 16] (fun sq sr => ∃ q r : Int, 0 ≤ q ∧ q ≤ 4294967297 ∧ 0 ≤ r ∧ r < 4294967296 ∧ sq = .int .u64 q ∧ sr = .int .u64 r ∧ Hid (q * y1 + r = u ∧ Q1 ≤ q)) (fun sq sr => (intOf sq).toNat)
  case atStart => exact ⟨u / y1, u % y1, HS1.out.1, HS1.out.2.1, HS1.out.2.2.1, HS1.out.2.2.2.1, rfl, rfl, HS1.out.2.2.2.2⟩
  case round =>
    obtain ⟨q, r, q0, q1, r0, r1, rfl, rfl, hq⟩ := hrel
    have wr : IntKind.u64.wrap (r + y1) = r + y1 := by rw [IntKind.wrap_u64]; omega
    by_cases c1 : 4294967296 ≤ q
    · have lt : Hid (Q1 ≤ q - 1) := by
        show Q1 ≤ q - 1
        have := HTQ1.out
        omega
      have wq : IntKind.u64.wrap (q - 1) = q - 1 := by rw [IntKind.wrap_u64]; omega
      by_cases c3 : 4294967296 ≤ r + y1
      · have eq : q - 1 = Q1 := by
          have := digit_stop Y y1 y0 u v1 (q - 1) (r + y1) HY.out.1 HY.out.2 (by rw [Int.sub_mul]; have := hq.out.1; omega) (digit_break y0 v1 (q - 1) (r + y1) HY0.out.1 HY0.out.2 HVv1.out.1 (by omega) c3)
          have h2 := HQ1.out
          have := lt.out
          omega
        obtain rfl : q = Q1 + 1 := by omega
        have wq : IntKind.u64.wrap (Q1 + 1 - 1) = Q1 := by rw [IntKind.wrap_u64]; omega
        clear lt hq eq
        go_wp2_with fail
        go_loop [16, 18] (fun sr sq => ∃ q r : Int, 0 ≤ q ∧ q ≤ 4294967297 ∧ 0 ≤ r ∧ r < 4294967296 ∧ sq = .int .u64 q ∧ sr = .int .u64 r ∧ Hid (q * y1 + r = R1 ∧ Q0 ≤ q)) (fun sr sq => (intOf sq).toNat)
        case atStart => exact ⟨R1 / y1, R1 % y1, HS0.out.1, HS0.out.2.1, HS0.out.2.2.1, HS0.out.2.2.2.1, rfl, rfl, HS0.out.2.2.2.2⟩
        case round =>
          obtain ⟨q, r, q0, q1, r0, r1, rfl, rfl, hq⟩ := hrel
          have wr : IntKind.u64.wrap (r + y1) = r + y1 := by rw [IntKind.wrap_u64]; omega
          by_cases c1 : 4294967296 ≤ q
          · have lt : Hid (Q0 ≤ q - 1) := by
              show Q0 ≤ q - 1
              have := HTQ0.out
              omega
            have wq : IntKind.u64.wrap (q - 1) = q - 1 := by rw [IntKind.wrap_u64]; omega
            by_cases c3 : 4294967296 ≤ r + y1
            · have eq : q - 1 = Q0 := by
                have := digit_stop Y y1 y0 R1 v0 (q - 1) (r + y1) HY.out.1 HY.out.2 (by rw [Int.sub_mul]; have := hq.out.1; omega) (digit_break y0 v0 (q - 1) (r + y1) HY0.out.1 HY0.out.2 HVv0.out.1 (by omega) c3)
                have h2 := HQ0.out
                have := lt.out
                omega
              obtain rfl : q = Q0 + 1 := by omega
              have wq : IntKind.u64.wrap (Q0 + 1 - 1) = Q0 := by rw [IntKind.wrap_u64]; omega
              clear lt hq eq
              go_wp2_with fail
              go_ret2
              exact ⟨rfl, rfl⟩
            · have c3' : decide ((4294967296 : Int) ≤ r + y1) = false := by simpa using c3
              have hq' : Hid ((q - 1) * y1 + (r + y1) = R1 ∧ Q0 ≤ q - 1) := ⟨by rw [Int.sub_mul]; have := hq.out.1; omega, lt.out⟩
              clear hq lt
              go_wp2_with fail
              go_round
              case rel => exact ⟨q - 1, r + y1, by omega, by omega, by omega, by omega, rfl, rfl, hq'.out⟩
              case measure => simp [intOf]; omega
          · have c1' : decide ((4294967296 : Int) ≤ q) = false := by simpa using c1
            have qy := Int.mul_le_mul_of_nonneg_right (show q ≤ 4294967295 by omega) HY0.out.1
            have qy0 := Int.mul_nonneg q0 HY0.out.1
            have wp : IntKind.u64.wrap (q * y0) = q * y0 := by rw [IntKind.wrap_u64]; have := HY0.out.2; omega
            have wb : IntKind.u64.wrap (4294967296 * r) = 4294967296 * r := by rw [IntKind.wrap_u64]; omega
            have wc : IntKind.u64.wrap (4294967296 * r + v0) = 4294967296 * r + v0 := by rw [IntKind.wrap_u64]; have := HVv0.out; omega
            clear qy qy0
            by_cases c2 : 4294967296 * r + v0 < q * y0
            · have lt : Hid (Q0 ≤ q - 1) := by
                show Q0 ≤ q - 1
                have := digit_step Y y1 y0 R1 v0 q r HY.out.1 HY.out.2 hq.out.1 c2
                have h2 := HQ0.out
                omega
              have q2 : 1 ≤ q := by
                have := lt.out
                have := HNQ0.out
                omega
              have wq : IntKind.u64.wrap (q - 1) = q - 1 := by rw [IntKind.wrap_u64]; omega
              by_cases c3 : 4294967296 ≤ r + y1
              · have eq : q - 1 = Q0 := by
                  have := digit_stop Y y1 y0 R1 v0 (q - 1) (r + y1) HY.out.1 HY.out.2 (by rw [Int.sub_mul]; have := hq.out.1; omega) (digit_break y0 v0 (q - 1) (r + y1) HY0.out.1 HY0.out.2 HVv0.out.1 (by omega) c3)
                  have h2 := HQ0.out
                  have := lt.out
                  omega
                obtain rfl : q = Q0 + 1 := by omega
                have wq : IntKind.u64.wrap (Q0 + 1 - 1) = Q0 := by rw [IntKind.wrap_u64]; omega
                clear lt hq eq
                go_wp2_with fail
                go_ret2
                exact ⟨rfl, rfl⟩
              · have c3' : decide ((4294967296 : Int) ≤ r + y1) = false := by simpa using c3
                have hq' : Hid ((q - 1) * y1 + (r + y1) = R1 ∧ Q0 ≤ q - 1) := ⟨by rw [Int.sub_mul]; have := hq.out.1; omega, lt.out⟩
                clear hq lt
                go_wp2_with fail
                go_round
                case rel => exact ⟨q - 1, r + y1, by omega, by omega, by omega, by omega, rfl, rfl, hq'.out⟩
                case measure => simp [intOf]; omega
            · have c2' : decide (4294967296 * r + v0 < q * y0) = false := by simpa using c2
              have eq : q = Q0 := by
                have := digit_stop Y y1 y0 R1 v0 q r HY.out.1 HY.out.2 hq.out.1 (by omega)
                have h2 := HQ0.out
                have := hq.out.2
                omega
              obtain rfl : q = Q0 := eq
              clear hq
              go_wp2_with fail
              go_ret2
              exact ⟨rfl, rfl⟩
      · have c3' : decide ((4294967296 : Int) ≤ r + y1) = false := by simpa using c3
        have hq' : Hid ((q - 1) * y1 + (r + y1) = u ∧ Q1 ≤ q - 1) := ⟨by rw [Int.sub_mul]; have := hq.out.1; omega, lt.out⟩
        clear hq lt
        go_wp2_with fail
        go_round
        case rel => exact ⟨q - 1, r + y1, by omega, by omega, by omega, by omega, rfl, rfl, hq'.out⟩
        case measure => simp [intOf]; omega
    · have c1' : decide ((4294967296 : Int) ≤ q) = false := by simpa using c1
      have qy := Int.mul_le_mul_of_nonneg_right (show q ≤ 4294967295 by omega) HY0.out.1
      have qy0 := Int.mul_nonneg q0 HY0.out.1
      have wp : IntKind.u64.wrap (q * y0) = q * y0 := by rw [IntKind.wrap_u64]; have := HY0.out.2; omega
      have wb : IntKind.u64.wrap (4294967296 * r) = 4294967296 * r := by rw [IntKind.wrap_u64]; omega
      have wc : IntKind.u64.wrap (4294967296 * r + v1) = 4294967296 * r + v1 := by rw [IntKind.wrap_u64]; have := HVv1.out; omega
      clear qy qy0
      by_cases c2 : 4294967296 * r + v1 < q * y0
      · have lt : Hid (Q1 ≤ q - 1) := by
          show Q1 ≤ q - 1
          have := digit_step Y y1 y0 u v1 q r HY.out.1 HY.out.2 hq.out.1 c2
          have h2 := HQ1.out
          omega
        have q2 : 1 ≤ q := by
          have := lt.out
          have := HNQ1.out
          omega
        have wq : IntKind.u64.wrap (q - 1) = q - 1 := by rw [IntKind.wrap_u64]; omega
        by_cases c3 : 4294967296 ≤ r + y1
        · have eq : q - 1 = Q1 := by
            have := digit_stop Y y1 y0 u v1 (q - 1) (r + y1) HY.out.1 HY.out.2 (by rw [Int.sub_mul]; have := hq.out.1; omega) (digit_break y0 v1 (q - 1) (r + y1) HY0.out.1 HY0.out.2 HVv1.out.1 (by omega) c3)
            have h2 := HQ1.out
            have := lt.out
            omega
          obtain rfl : q = Q1 + 1 := by omega
          have wq : IntKind.u64.wrap (Q1 + 1 - 1) = Q1 := by rw [IntKind.wrap_u64]; omega
          clear lt hq eq
          go_wp2_with fail
          go_loop [16, 18] (fun sr sq => ∃ q r : Int, 0 ≤ q ∧ q ≤ 4294967297 ∧ 0 ≤ r ∧ r < 4294967296 ∧ sq = .int .u64 q ∧ sr = .int .u64 r ∧ Hid (q * y1 + r = R1 ∧ Q0 ≤ q)) (fun sr sq => (intOf sq).toNat)
          case atStart => exact ⟨R1 / y1, R1 % y1, HS0.out.1, HS0.out.2.1, HS0.out.2.2.1, HS0.out.2.2.2.1, rfl, rfl, HS0.out.2.2.2.2⟩
          case round =>
            obtain ⟨q, r, q0, q1, r0, r1, rfl, rfl, hq⟩ := hrel
            have wr : IntKind.u64.wrap (r + y1) = r + y1 := by rw [IntKind.wrap_u64]; omega
            by_cases c1 : 4294967296 ≤ q
            · have lt : Hid (Q0 ≤ q - 1) := by
                show Q0 ≤ q - 1
                have := HTQ0.out
                omega
              have wq : IntKind.u64.wrap (q - 1) = q - 1 := by rw [IntKind.wrap_u64]; omega
              by_cases c3 : 4294967296 ≤ r + y1
              · have eq : q - 1 = Q0 := by
                  have := digit_stop Y y1 y0 R1 v0 (q - 1) (r + y1) HY.out.1 HY.out.2 (by rw [Int.sub_mul]; have := hq.out.1; omega) (digit_break y0 v0 (q - 1) (r + y1) HY0.out.1 HY0.out.2 HVv0.out.1 (by omega) c3)
                  have h2 := HQ0.out
                  have := lt.out
                  omega
                obtain rfl : q = Q0 + 1 := by omega
                have wq : IntKind.u64.wrap (Q0 + 1 - 1) = Q0 := by rw [IntKind.wrap_u64]; omega
                clear lt hq eq
                go_wp2_with fail
                go_ret2
                exact ⟨rfl, rfl⟩
              · have c3' : decide ((4294967296 : Int) ≤ r + y1) = false := by simpa using c3
                have hq' : Hid ((q - 1) * y1 + (r + y1) = R1 ∧ Q0 ≤ q - 1) := ⟨by rw [Int.sub_mul]; have := hq.out.1; omega, lt.out⟩
                clear hq lt
                go_wp2_with fail
                go_round
                case rel => exact ⟨q - 1, r + y1, by omega, by omega, by omega, by omega, rfl, rfl, hq'.out⟩
                case measure => simp [intOf]; omega
            · have c1' : decide ((4294967296 : Int) ≤ q) = false := by simpa using c1
              have qy := Int.mul_le_mul_of_nonneg_right (show q ≤ 4294967295 by omega) HY0.out.1
              have qy0 := Int.mul_nonneg q0 HY0.out.1
              have wp : IntKind.u64.wrap (q * y0) = q * y0 := by rw [IntKind.wrap_u64]; have := HY0.out.2; omega
              have wb : IntKind.u64.wrap (4294967296 * r) = 4294967296 * r := by rw [IntKind.wrap_u64]; omega
              have wc : IntKind.u64.wrap (4294967296 * r + v0) = 4294967296 * r + v0 := by rw [IntKind.wrap_u64]; have := HVv0.out; omega
              clear qy qy0
              by_cases c2 : 4294967296 * r + v0 < q * y0
              · have lt : Hid (Q0 ≤ q - 1) := by
                  show Q0 ≤ q - 1
                  have := digit_step Y y1 y0 R1 v0 q r HY.out.1 HY.out.2 hq.out.1 c2
                  have h2 := HQ0.out
                  omega
                have q2 : 1 ≤ q := by
                  have := lt.out
                  have := HNQ0.out
                  omega
                have wq : IntKind.u64.wrap (q - 1) = q - 1 := by rw [IntKind.wrap_u64]; omega
                by_cases c3 : 4294967296 ≤ r + y1
                · have eq : q - 1 = Q0 := by
                    have := digit_stop Y y1 y0 R1 v0 (q - 1) (r + y1) HY.out.1 HY.out.2 (by rw [Int.sub_mul]; have := hq.out.1; omega) (digit_break y0 v0 (q - 1) (r + y1) HY0.out.1 HY0.out.2 HVv0.out.1 (by omega) c3)
                    have h2 := HQ0.out
                    have := lt.out
                    omega
                  obtain rfl : q = Q0 + 1 := by omega
                  have wq : IntKind.u64.wrap (Q0 + 1 - 1) = Q0 := by rw [IntKind.wrap_u64]; omega
                  clear lt hq eq
                  go_wp2_with fail
                  go_ret2
                  exact ⟨rfl, rfl⟩
                · have c3' : decide ((4294967296 : Int) ≤ r + y1) = false := by simpa using c3
                  have hq' : Hid ((q - 1) * y1 + (r + y1) = R1 ∧ Q0 ≤ q - 1) := ⟨by rw [Int.sub_mul]; have := hq.out.1; omega, lt.out⟩
                  clear hq lt
                  go_wp2_with fail
                  go_round
                  case rel => exact ⟨q - 1, r + y1, by omega, by omega, by omega, by omega, rfl, rfl, hq'.out⟩
                  case measure => simp [intOf]; omega
              · have c2' : decide (4294967296 * r + v0 < q * y0) = false := by simpa using c2
                have eq : q = Q0 := by
                  have := digit_stop Y y1 y0 R1 v0 q r HY.out.1 HY.out.2 hq.out.1 (by omega)
                  have h2 := HQ0.out
                  have := hq.out.2
                  omega
                obtain rfl : q = Q0 := eq
                clear hq
                go_wp2_with fail
                go_ret2
                exact ⟨rfl, rfl⟩
        · have c3' : decide ((4294967296 : Int) ≤ r + y1) = false := by simpa using c3
          have hq' : Hid ((q - 1) * y1 + (r + y1) = u ∧ Q1 ≤ q - 1) := ⟨by rw [Int.sub_mul]; have := hq.out.1; omega, lt.out⟩
          clear hq lt
          go_wp2_with fail
          go_round
          case rel => exact ⟨q - 1, r + y1, by omega, by omega, by omega, by omega, rfl, rfl, hq'.out⟩
          case measure => simp [intOf]; omega
      · have c2' : decide (4294967296 * r + v1 < q * y0) = false := by simpa using c2
        have eq : q = Q1 := by
          have := digit_stop Y y1 y0 u v1 q r HY.out.1 HY.out.2 hq.out.1 (by omega)
          have h2 := HQ1.out
          have := hq.out.2
          omega
        obtain rfl : q = Q1 := eq
        clear hq
        go_wp2_with fail
        go_loop [16, 18] (fun sr sq => ∃ q r : Int, 0 ≤ q ∧ q ≤ 4294967297 ∧ 0 ≤ r ∧ r < 4294967296 ∧ sq = .int .u64 q ∧ sr = .int .u64 r ∧ Hid (q * y1 + r = R1 ∧ Q0 ≤ q)) (fun sr sq => (intOf sq).toNat)
        case atStart => exact ⟨R1 / y1, R1 % y1, HS0.out.1, HS0.out.2.1, HS0.out.2.2.1, HS0.out.2.2.2.1, rfl, rfl, HS0.out.2.2.2.2⟩
        case round =>
          obtain ⟨q, r, q0, q1, r0, r1, rfl, rfl, hq⟩ := hrel
          have wr : IntKind.u64.wrap (r + y1) = r + y1 := by rw [IntKind.wrap_u64]; omega
          by_cases c1 : 4294967296 ≤ q
          · have lt : Hid (Q0 ≤ q - 1) := by
              show Q0 ≤ q - 1
              have := HTQ0.out
              omega
            have wq : IntKind.u64.wrap (q - 1) = q - 1 := by rw [IntKind.wrap_u64]; omega
            by_cases c3 : 4294967296 ≤ r + y1
            · have eq : q - 1 = Q0 := by
                have := digit_stop Y y1 y0 R1 v0 (q - 1) (r + y1) HY.out.1 HY.out.2 (by rw [Int.sub_mul]; have := hq.out.1; omega) (digit_break y0 v0 (q - 1) (r + y1) HY0.out.1 HY0.out.2 HVv0.out.1 (by omega) c3)
                have h2 := HQ0.out
                have := lt.out
                omega
              obtain rfl : q = Q0 + 1 := by omega
              have wq : IntKind.u64.wrap (Q0 + 1 - 1) = Q0 := by rw [IntKind.wrap_u64]; omega
              clear lt hq eq
              go_wp2_with fail
              go_ret2
              exact ⟨rfl, rfl⟩
            · have c3' : decide ((4294967296 : Int) ≤ r + y1) = false := by simpa using c3
              have hq' : Hid ((q - 1) * y1 + (r + y1) = R1 ∧ Q0 ≤ q - 1) := ⟨by rw [Int.sub_mul]; have := hq.out.1; omega, lt.out⟩
              clear hq lt
              go_wp2_with fail
              go_round
              case rel => exact ⟨q - 1, r + y1, by omega, by omega, by omega, by omega, rfl, rfl, hq'.out⟩
              case measure => simp [intOf]; omega
          · have c1' : decide ((4294967296 : Int) ≤ q) = false := by simpa using c1
            have qy := Int.mul_le_mul_of_nonneg_right (show q ≤ 4294967295 by omega) HY0.out.1
            have qy0 := Int.mul_nonneg q0 HY0.out.1
            have wp : IntKind.u64.wrap (q * y0) = q * y0 := by rw [IntKind.wrap_u64]; have := HY0.out.2; omega
            have wb : IntKind.u64.wrap (4294967296 * r) = 4294967296 * r := by rw [IntKind.wrap_u64]; omega
            have wc : IntKind.u64.wrap (4294967296 * r + v0) = 4294967296 * r + v0 := by rw [IntKind.wrap_u64]; have := HVv0.out; omega
            clear qy qy0
            by_cases c2 : 4294967296 * r + v0 < q * y0
            · have lt : Hid (Q0 ≤ q - 1) := by
                show Q0 ≤ q - 1
                have := digit_step Y y1 y0 R1 v0 q r HY.out.1 HY.out.2 hq.out.1 c2
                have h2 := HQ0.out
                omega
              have q2 : 1 ≤ q := by
                have := lt.out
                have := HNQ0.out
                omega
              have wq : IntKind.u64.wrap (q - 1) = q - 1 := by rw [IntKind.wrap_u64]; omega
              by_cases c3 : 4294967296 ≤ r + y1
              · have eq : q - 1 = Q0 := by
                  have := digit_stop Y y1 y0 R1 v0 (q - 1) (r + y1) HY.out.1 HY.out.2 (by rw [Int.sub_mul]; have := hq.out.1; omega) (digit_break y0 v0 (q - 1) (r + y1) HY0.out.1 HY0.out.2 HVv0.out.1 (by omega) c3)
                  have h2 := HQ0.out
                  have := lt.out
                  omega
                obtain rfl : q = Q0 + 1 := by omega
                have wq : IntKind.u64.wrap (Q0 + 1 - 1) = Q0 := by rw [IntKind.wrap_u64]; omega
                clear lt hq eq
                go_wp2_with fail
                go_ret2
                exact ⟨rfl, rfl⟩
              · have c3' : decide ((4294967296 : Int) ≤ r + y1) = false := by simpa using c3
                have hq' : Hid ((q - 1) * y1 + (r + y1) = R1 ∧ Q0 ≤ q - 1) := ⟨by rw [Int.sub_mul]; have := hq.out.1; omega, lt.out⟩
                clear hq lt
                go_wp2_with fail
                go_round
                case rel => exact ⟨q - 1, r + y1, by omega, by omega, by omega, by omega, rfl, rfl, hq'.out⟩
                case measure => simp [intOf]; omega
            · have c2' : decide (4294967296 * r + v0 < q * y0) = false := by simpa using c2
              have eq : q = Q0 := by
                have := digit_stop Y y1 y0 R1 v0 q r HY.out.1 HY.out.2 hq.out.1 (by omega)
                have h2 := HQ0.out
                have := hq.out.2
                omega
              obtain rfl : q = Q0 := eq
              clear hq
              go_wp2_with fail
              go_ret2
              exact ⟨rfl, rfl⟩
theorem div_zero (lo y : Int) (w : World) (hy : 0 < y) (hy1 : y ≤ 18446744073709551615) (l0 : 0 ≤ lo) (l1 : lo ≤ 18446744073709551615) :
    Calls Try.prog 61 #[.int .u64 0, .int .u64 lo, .int .u64 y] w fun e w' => e = .returned (.tuple #[.int .u64 (lo / y), .int .u64 (lo % y)]) ∧ Below w.heap.size w w' := by
  have a1 : (y == 0) = false := by simp; omega
  have a2 : decide (y ≤ 0) = false := by simp; omega
  go_enter Try.func61, Try.ntmps61
  go_wp2_with fail
  go_quiet (fail)
  go_wp2
  go_ret2
  exact ⟨rfl, below_drewN (Below.refl _ _) _⟩

theorem pow_pos2 (k : Nat) : (0 : Int) < 2 ^ k := Int.pow_pos (by decide)
theorem pow_split (k : Nat) (h : k ≤ 64) : (2 : Int) ^ (64 - k) * 2 ^ k = 18446744073709551616 := by
  rw [← Int.pow_add]
  have : 64 - k + k = 64 := by omega
  rw [this]
  decide
theorem and_mask (x : Int) (h0 : 0 ≤ x) (h1 : x ≤ 18446744073709551615) : bits BinOp.and IntKind.u64 x 4294967295 = x % 4294967296 := by
  obtain ⟨a, rfl⟩ := Int.eq_ofNat_of_zero_le h0
  have h := bits_and_u64_nat a 4294967295 (by omega) (by omega)
  have e : a &&& 4294967295 = a % 4294967296 := Nat.and_two_pow_sub_one_eq_mod a 32
  rw [e] at h
  have h' : bits .and .u64 (a : Int) 4294967295 = ((a % 4294967296 : Nat) : Int) := h
  rw [h']
  omega
/-- Div64: the quotient and the rest. -/
theorem div_any (hi lo y : Int) (w : World) (h0 : 0 ≤ hi) (h1 : hi < y) (hy1 : y ≤ 18446744073709551615) (l0 : 0 ≤ lo) (l1 : lo ≤ 18446744073709551615) :
    Calls Try.prog 61 #[.int .u64 hi, .int .u64 lo, .int .u64 y] w fun e w' => e = .returned (.tuple #[.int .u64 ((hi * 18446744073709551616 + lo) / y), .int .u64 ((hi * 18446744073709551616 + lo) % y)]) ∧ Below w.heap.size w w' := by
  by_cases hz : hi = 0
  · subst hz
    have h := div_zero lo y w (by omega) hy1 l0 l1
    simpa using h
  have hp : 0 < hi := by omega
  obtain ⟨b1, b2, b3, b4⟩ := bitLen_spec 64 y.toNat (by omega) (Nat.le_refl _) (by omega)
  have HL := fun w => Go.Proofs.Try.bits_LeadingZeros64 y w (by omega) hy1
  generalize hL : Lib.bitLen y.toNat = L at *
  obtain ⟨k, hk⟩ : ∃ k : Nat, (64 : Int) - (L : Int) = k := ⟨64 - L, by omega⟩
  rw [hk] at HL
  have k1 : k ≤ 63 := by omega
  have hLk : L = 64 - k := by omega
  have P0 := pow_pos2 k
  have PS := pow_split k (by omega)
  have PD0 := pow_pos2 (64 - k)
  have yL : y < 2 ^ (64 - k) := by
    have : (y.toNat : Int) < ((2 ^ (64 - k) : Nat) : Int) := by rw [← hLk]; exact Int.ofNat_lt.2 b2
    have e : ((2 ^ (64 - k) : Nat) : Int) = 2 ^ (64 - k) := by simp
    omega
  have yH : (2 : Int) ^ (63 - k) ≤ y := by
    have : ((2 ^ (L - 1) : Nat) : Int) ≤ (y.toNat : Int) := Int.ofNat_le.2 b1
    have e : ((2 ^ (L - 1) : Nat) : Int) = 2 ^ (63 - k) := by
      have : L - 1 = 63 - k := by omega
      rw [this]
      simp
    omega
  have P63 : (2 : Int) ^ (63 - k) * 2 ^ k = 9223372036854775808 := by
    rw [← Int.pow_add]
    have : 63 - k + k = 63 := by omega
    rw [this]
    decide
  have Ytop : y * 2 ^ k < 18446744073709551616 := by rw [← PS]; exact Int.mul_lt_mul_of_pos_right yL P0
  have Ylow : 9223372036854775808 ≤ y * 2 ^ k := by rw [← P63]; exact Int.mul_le_mul_of_nonneg_right yH (Int.le_of_lt P0)
  have hiP : hi * 2 ^ k < y * 2 ^ k := Int.mul_lt_mul_of_pos_right h1 P0
  have hiP0 : 0 ≤ hi * 2 ^ k := Int.mul_nonneg h0 (Int.le_of_lt P0)
  have loP0 : 0 ≤ lo * 2 ^ k := Int.mul_nonneg l0 (Int.le_of_lt P0)
  have lodiv : lo * 2 ^ k / 18446744073709551616 = lo / 2 ^ (64 - k) := by
    rw [← PS]
    exact Int.mul_ediv_mul_of_pos_left lo _ P0
  have lod0 : 0 ≤ lo / 2 ^ (64 - k) := Int.ediv_nonneg l0 (Int.le_of_lt PD0)
  have lod1 : lo / 2 ^ (64 - k) < 2 ^ k := by
    rw [Int.ediv_lt_iff_lt_mul PD0, Int.mul_comm, PS]
    omega
  have hsplit := Int.mul_ediv_add_emod (lo * 2 ^ k) 18446744073709551616
  have t0 := Int.emod_nonneg (lo * 2 ^ k) (show (18446744073709551616 : Int) ≠ 0 by decide)
  have t1 := Int.emod_lt_of_pos (lo * 2 ^ k) (show (0 : Int) < 18446744073709551616 by decide)
  rw [lodiv] at hsplit
  have usum : (hi * 2 ^ k + lo / 2 ^ (64 - k)) * 18446744073709551616 + lo * 2 ^ k % 18446744073709551616 = (hi * 18446744073709551616 + lo) * 2 ^ k := by
    have e2 : hi * 18446744073709551616 * 2 ^ k = hi * 2 ^ k * 18446744073709551616 := by rw [Int.mul_assoc, Int.mul_comm 18446744073709551616, ← Int.mul_assoc]
    rw [Int.add_mul, Int.add_mul, e2]
    omega
  have uY : hi * 2 ^ k + lo / 2 ^ (64 - k) < y * 2 ^ k := by
    have : (hi + 1) * 2 ^ k ≤ y * 2 ^ k := Int.mul_le_mul_of_nonneg_right (by omega) (Int.le_of_lt P0)
    rw [Int.add_mul, Int.one_mul] at this
    omega
  have eU : bits BinOp.or IntKind.u64 (hi * 2 ^ k) (lo / 2 ^ (64 - k)) = hi * 2 ^ k + lo / 2 ^ (64 - k) := by
    refine bits_join .u64 64 (by decide) (fun n a b => by rw [IntKind.wrap_u64]; omega) k _ _ hiP0 (Int.mul_emod_left hi _) (by omega) lod0 lod1 (by omega)
  have tot := div_total hi lo y (2 ^ k) (y * 2 ^ k) (hi * 2 ^ k + lo / 2 ^ (64 - k)) (lo * 2 ^ k % 18446744073709551616) (lo * 2 ^ k % 18446744073709551616 / 4294967296) (lo * 2 ^ k % 18446744073709551616 % 4294967296) P0 (by omega) rfl usum (by omega)
  have kN : ((k : Int)).toNat = k := by simp
  have k64 : ((64 : Int) - (k : Int)).toNat = 64 - k := by omega
  have wY : IntKind.u64.wrap (y * 2 ^ ((k : Int)).toNat) = y * 2 ^ k := by rw [kN, IntKind.wrap_u64]; omega
  have wH : IntKind.u64.wrap (hi * 2 ^ ((k : Int)).toNat) = hi * 2 ^ k := by rw [kN, IntKind.wrap_u64]; omega
  have wT : IntKind.u64.wrap (lo * 2 ^ ((k : Int)).toNat) = lo * 2 ^ k % 18446744073709551616 := by rw [kN, IntKind.wrap_u64]
  have eU' : bits BinOp.or IntKind.u64 (IntKind.u64.wrap (hi * 2 ^ ((k : Int)).toNat)) (lo / 2 ^ ((64 : Int) - (k : Int)).toNat) = hi * 2 ^ k + lo / 2 ^ (64 - k) := by rw [wH, k64]; exact eU
  generalize hY : y * 2 ^ k = Y at *
  generalize hu : hi * 2 ^ k + lo / 2 ^ (64 - k) = u at *
  generalize ht : lo * 2 ^ k % 18446744073709551616 = t at *
  have u0 : 0 ≤ u := by omega
  have y1lo : 2147483648 ≤ Y / 4294967296 := by omega
  have y1hi : Y / 4294967296 < 4294967296 := by omega
  have Ysum : Y = Y / 4294967296 * 4294967296 + Y % 4294967296 := by omega
  have y00 : 0 ≤ Y % 4294967296 ∧ Y % 4294967296 < 4294967296 := by omega
  have v1b : 0 ≤ t / 4294967296 ∧ t / 4294967296 < 4294967296 := by omega
  have v0b : 0 ≤ t % 4294967296 ∧ t % 4294967296 < 4294967296 := by omega
  have mY : bits BinOp.and IntKind.u64 Y 4294967295 = Y % 4294967296 := and_mask Y (by omega) (by omega)
  have mT : bits BinOp.and IntKind.u64 t 4294967295 = t % 4294967296 := and_mask t t0 (by omega)
  generalize gy1 : Y / 4294967296 = y1 at *
  generalize gy0 : Y % 4294967296 = y0 at *
  generalize gv1 : t / 4294967296 = v1 at *
  generalize gv0 : t % 4294967296 = v0 at *
  -- the first digit
  have top1 := digit_top Y u v1 u0 uY v1b.2
  have st1 := digit_start Y y1 y0 u v1 y1lo Ysum y00.1 y00.2 u0 uY v1b.1 v1b.2
  have Q1n : 0 ≤ (u * 4294967296 + v1) / Y := Int.ediv_nonneg (by omega) (by omega)
  have m1 := Int.emod_nonneg u (show y1 ≠ 0 by omega)
  have m2 := Int.emod_lt_of_pos u (show 0 < y1 by omega)
  have d1 := Int.ediv_nonneg u0 (show 0 ≤ y1 by omega)
  have e1 := Int.mul_ediv_add_emod (u * 4294967296 + v1) Y
  have r10 := Int.emod_nonneg (u * 4294967296 + v1) (show Y ≠ 0 by omega)
  have r11 := Int.emod_lt_of_pos (u * 4294967296 + v1) (show 0 < Y by omega)
  rw [Int.mul_comm] at e1
  generalize gQ1 : (u * 4294967296 + v1) / Y = Q1 at *
  generalize gR1 : (u * 4294967296 + v1) % Y = R1 at *
  -- the second one
  have top0 := digit_top Y R1 v0 r10 r11 v0b.2
  have st0 := digit_start Y y1 y0 R1 v0 y1lo Ysum y00.1 y00.2 r10 r11 v0b.1 v0b.2
  have Q0n : 0 ≤ (R1 * 4294967296 + v0) / Y := Int.ediv_nonneg (by omega) (by omega)
  have n1 := Int.emod_nonneg R1 (show y1 ≠ 0 by omega)
  have n2 := Int.emod_lt_of_pos R1 (show 0 < y1 by omega)
  have d0 := Int.ediv_nonneg r10 (show 0 ≤ y1 by omega)
  have e0 := Int.mul_ediv_add_emod (R1 * 4294967296 + v0) Y
  have r00 := Int.emod_nonneg (R1 * 4294967296 + v0) (show Y ≠ 0 by omega)
  have r01 := Int.emod_lt_of_pos (R1 * 4294967296 + v0) (show 0 < Y by omega)
  rw [Int.mul_comm] at e0
  generalize gQ0 : (R1 * 4294967296 + v0) / Y = Q0 at *
  generalize gR0 : (R1 * 4294967296 + v0) % Y = R0 at *
  have c := div_walk hi lo y k Y y1 y0 u t v1 v0 Q1 R1 Q0 R0 w hp h1 (by omega) (by omega) y1lo y1hi
    ⟨by omega, Ysum⟩ y00 v1b v0b gQ1.symm gQ0.symm top1 top0 Q1n Q0n
    ⟨d1, st1.2.1, m1, by omega, st1.2.2, st1.1⟩ ⟨d0, st0.2.1, n1, by omega, st0.2.2, st0.1⟩ HL
    wY gy1 mY eU' wT gv1 mT
    (by rw [Int.tdiv_eq_ediv_of_nonneg u0, IntKind.wrap_u64]; have := st1.2.1; omega)
    (by rw [IntKind.wrap_u64, IntKind.wrap_u64]; have := st1.2.2; omega)
    (by rw [IntKind.wrap_u64, IntKind.wrap_u64, IntKind.wrap_u64, IntKind.wrap_u64]; omega)
    (by rw [Int.tdiv_eq_ediv_of_nonneg r10, IntKind.wrap_u64]; have := st0.2.1; omega)
    (by rw [IntKind.wrap_u64, IntKind.wrap_u64]; have := st0.2.2; omega)
    (by rw [IntKind.wrap_u64, IntKind.wrap_u64]; omega)
    (by rw [IntKind.wrap_u64]; omega)
    (by rw [IntKind.wrap_u64, IntKind.wrap_u64, IntKind.wrap_u64, IntKind.wrap_u64]; omega)
  rw [tot.1, kN, tot.2] at c
  exact c.mono fun e w' ⟨he, hw⟩ => ⟨he, by rw [hw]; exact Below.refl _ _⟩
end Go.Proofs.Ytjanibholjimkaa
