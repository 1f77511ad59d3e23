/-
  What lies in memory while the document divides numbers of 128 bits, digit by digit, and the plain laws of one digit.
-/
import Derived.Test.YtmpdicjjaoeblaaDoorXa
namespace Go.Proofs.YtmpdicjjaoeblaaDoor
open Go.RowKit Go.Shelf
set_option linter.unusedVariables false
theorem six (w : World) (a b c d e f : Obj) : Below w.heap.size w ((((((w.alloc a).alloc b).alloc c).alloc d).alloc e).alloc f) := beyond (three w a b c) (three _ d e f)
def St (W : World) (s : Nat) (nh nl dh dl qh ql rh rl : Int) : Prop := W.cell? ⟨s, 0, none⟩ = some (.int .u64 nh) ∧ W.cell? ⟨s, 1, none⟩ = some (.int .u64 nl) ∧ W.cell? ⟨s + 1, 0, none⟩ = some (.int .u64 dh) ∧ W.cell? ⟨s + 1, 1, none⟩ = some (.int .u64 dl) ∧ W.cell? ⟨s + 1 + 1, 0, none⟩ = some (.int .u64 0) ∧ W.cell? ⟨s + 1 + 1, 1, none⟩ = some (.int .u64 0) ∧ W.cell? ⟨s + 1 + 1 + 1, 0, none⟩ = some (.int .u64 0) ∧ W.cell? ⟨s + 1 + 1 + 1, 1, none⟩ = some (.int .u64 0) ∧ W.cell? ⟨s + 1 + 1 + 1 + 1, 0, none⟩ = some (.int .u64 qh) ∧ W.cell? ⟨s + 1 + 1 + 1 + 1, 1, none⟩ = some (.int .u64 ql) ∧ W.cell? ⟨s + 1 + 1 + 1 + 1 + 1, 0, none⟩ = some (.int .u64 rh) ∧ W.cell? ⟨s + 1 + 1 + 1 + 1 + 1, 1, none⟩ = some (.int .u64 rl) ∧ W.frozen? ⟨s + 1 + 1, 0, none⟩ = false ∧ W.frozen? ⟨s + 1 + 1, 1, none⟩ = false ∧ W.frozen? ⟨s + 1 + 1 + 1, 0, none⟩ = false ∧ W.frozen? ⟨s + 1 + 1 + 1, 1, none⟩ = false ∧ W.frozen? ⟨s + 1 + 1 + 1 + 1, 0, none⟩ = false ∧ W.frozen? ⟨s + 1 + 1 + 1 + 1, 1, none⟩ = false ∧ W.frozen? ⟨s + 1 + 1 + 1 + 1 + 1, 0, none⟩ = false ∧ W.frozen? ⟨s + 1 + 1 + 1 + 1 + 1, 1, none⟩ = false
theorem st_below {W W' : World} {s : Nat} {nh nl dh dl qh ql rh rl : Int} (h : St W s nh nl dh dl qh ql rh rl) (hb : Below W.heap.size W W') : St W' s nh nl dh dl qh ql rh rl := by
  obtain ⟨c0, c1, c2, c3, c4, c5, c6, c7, c8, c9, c10, c11, f0, f1, f2, f3, f4, f5, f6, f7⟩ := h
  exact ⟨kc _ _ hb c0, kc _ _ hb c1, kc _ _ hb c2, kc _ _ hb c3, kc _ _ hb c4, kc _ _ hb c5, kc _ _ hb c6, kc _ _ hb c7, kc _ _ hb c8, kc _ _ hb c9, kc _ _ hb c10, kc _ _ hb c11, kf _ _ hb c4 f0, kf _ _ hb c5 f1, kf _ _ hb c6 f2, kf _ _ hb c7 f3, kf _ _ hb c8 f4, kf _ _ hb c9 f5, kf _ _ hb c10 f6, kf _ _ hb c11 f7⟩
theorem st_r {W : World} {s : Nat} {nh nl dh dl qh ql rh rl : Int} (h : St W s nh nl dh dl qh ql rh rl) (a b : Int) : St ((W.setCell ⟨s + 1 + 1 + 1 + 1 + 1, 0, none⟩ (.int .u64 a)).setCell ⟨s + 1 + 1 + 1 + 1 + 1, 1, none⟩ (.int .u64 b)) s nh nl dh dl qh ql a b := by
  obtain ⟨c0, c1, c2, c3, c4, c5, c6, c7, c8, c9, c10, c11, f0, f1, f2, f3, f4, f5, f6, f7⟩ := h
  have m0_2 : ¬ s = s + 1 + 1 := by omega
  have m0_3 : ¬ s = s + 1 + 1 + 1 := by omega
  have m0_4 : ¬ s = s + 1 + 1 + 1 + 1 := by omega
  have m0_5 : ¬ s = s + 1 + 1 + 1 + 1 + 1 := by omega
  have m1_3 : ¬ s + 1 = s + 1 + 1 + 1 := by omega
  have m1_4 : ¬ s + 1 = s + 1 + 1 + 1 + 1 := by omega
  have m1_5 : ¬ s + 1 = s + 1 + 1 + 1 + 1 + 1 := by omega
  have m2_0 : ¬ s + 1 + 1 = s := by omega
  have m2_4 : ¬ s + 1 + 1 = s + 1 + 1 + 1 + 1 := by omega
  have m2_5 : ¬ s + 1 + 1 = s + 1 + 1 + 1 + 1 + 1 := by omega
  have m3_0 : ¬ s + 1 + 1 + 1 = s := by omega
  have m3_1 : ¬ s + 1 + 1 + 1 = s + 1 := by omega
  have m3_5 : ¬ s + 1 + 1 + 1 = s + 1 + 1 + 1 + 1 + 1 := by omega
  have m4_0 : ¬ s + 1 + 1 + 1 + 1 = s := by omega
  have m4_1 : ¬ s + 1 + 1 + 1 + 1 = s + 1 := by omega
  have m4_2 : ¬ s + 1 + 1 + 1 + 1 = s + 1 + 1 := by omega
  have m5_0 : ¬ s + 1 + 1 + 1 + 1 + 1 = s := by omega
  have m5_1 : ¬ s + 1 + 1 + 1 + 1 + 1 = s + 1 := by omega
  have m5_2 : ¬ s + 1 + 1 + 1 + 1 + 1 = s + 1 + 1 := by omega
  have m5_3 : ¬ s + 1 + 1 + 1 + 1 + 1 = s + 1 + 1 + 1 := by omega
  unfold St
  simp [go_sem, *]
theorem st_q {W : World} {s : Nat} {nh nl dh dl qh ql rh rl : Int} (h : St W s nh nl dh dl qh ql rh rl) (a b : Int) : St ((W.setCell ⟨s + 1 + 1 + 1 + 1, 0, none⟩ (.int .u64 a)).setCell ⟨s + 1 + 1 + 1 + 1, 1, none⟩ (.int .u64 b)) s nh nl dh dl a b rh rl := by
  obtain ⟨c0, c1, c2, c3, c4, c5, c6, c7, c8, c9, c10, c11, f0, f1, f2, f3, f4, f5, f6, f7⟩ := h
  have m0_2 : ¬ s = s + 1 + 1 := by omega
  have m0_3 : ¬ s = s + 1 + 1 + 1 := by omega
  have m0_4 : ¬ s = s + 1 + 1 + 1 + 1 := by omega
  have m0_5 : ¬ s = s + 1 + 1 + 1 + 1 + 1 := by omega
  have m1_3 : ¬ s + 1 = s + 1 + 1 + 1 := by omega
  have m1_4 : ¬ s + 1 = s + 1 + 1 + 1 + 1 := by omega
  have m1_5 : ¬ s + 1 = s + 1 + 1 + 1 + 1 + 1 := by omega
  have m2_0 : ¬ s + 1 + 1 = s := by omega
  have m2_4 : ¬ s + 1 + 1 = s + 1 + 1 + 1 + 1 := by omega
  have m2_5 : ¬ s + 1 + 1 = s + 1 + 1 + 1 + 1 + 1 := by omega
  have m3_0 : ¬ s + 1 + 1 + 1 = s := by omega
  have m3_1 : ¬ s + 1 + 1 + 1 = s + 1 := by omega
  have m3_5 : ¬ s + 1 + 1 + 1 = s + 1 + 1 + 1 + 1 + 1 := by omega
  have m4_0 : ¬ s + 1 + 1 + 1 + 1 = s := by omega
  have m4_1 : ¬ s + 1 + 1 + 1 + 1 = s + 1 := by omega
  have m4_2 : ¬ s + 1 + 1 + 1 + 1 = s + 1 + 1 := by omega
  have m5_0 : ¬ s + 1 + 1 + 1 + 1 + 1 = s := by omega
  have m5_1 : ¬ s + 1 + 1 + 1 + 1 + 1 = s + 1 := by omega
  have m5_2 : ¬ s + 1 + 1 + 1 + 1 + 1 = s + 1 + 1 := by omega
  have m5_3 : ¬ s + 1 + 1 + 1 + 1 + 1 = s + 1 + 1 + 1 := by omega
  unfold St
  simp [go_sem, *]
theorem st_ql {W : World} {s : Nat} {nh nl dh dl qh ql rh rl : Int} (h : St W s nh nl dh dl qh ql rh rl) (b : Int) : St (W.setCell ⟨s + 1 + 1 + 1 + 1, 1, none⟩ (.int .u64 b)) s nh nl dh dl qh b rh rl := by
  obtain ⟨c0, c1, c2, c3, c4, c5, c6, c7, c8, c9, c10, c11, f0, f1, f2, f3, f4, f5, f6, f7⟩ := h
  have m0_2 : ¬ s = s + 1 + 1 := by omega
  have m0_3 : ¬ s = s + 1 + 1 + 1 := by omega
  have m0_4 : ¬ s = s + 1 + 1 + 1 + 1 := by omega
  have m0_5 : ¬ s = s + 1 + 1 + 1 + 1 + 1 := by omega
  have m1_3 : ¬ s + 1 = s + 1 + 1 + 1 := by omega
  have m1_4 : ¬ s + 1 = s + 1 + 1 + 1 + 1 := by omega
  have m1_5 : ¬ s + 1 = s + 1 + 1 + 1 + 1 + 1 := by omega
  have m2_0 : ¬ s + 1 + 1 = s := by omega
  have m2_4 : ¬ s + 1 + 1 = s + 1 + 1 + 1 + 1 := by omega
  have m2_5 : ¬ s + 1 + 1 = s + 1 + 1 + 1 + 1 + 1 := by omega
  have m3_0 : ¬ s + 1 + 1 + 1 = s := by omega
  have m3_1 : ¬ s + 1 + 1 + 1 = s + 1 := by omega
  have m3_5 : ¬ s + 1 + 1 + 1 = s + 1 + 1 + 1 + 1 + 1 := by omega
  have m4_0 : ¬ s + 1 + 1 + 1 + 1 = s := by omega
  have m4_1 : ¬ s + 1 + 1 + 1 + 1 = s + 1 := by omega
  have m4_2 : ¬ s + 1 + 1 + 1 + 1 = s + 1 + 1 := by omega
  have m5_0 : ¬ s + 1 + 1 + 1 + 1 + 1 = s := by omega
  have m5_1 : ¬ s + 1 + 1 + 1 + 1 + 1 = s + 1 := by omega
  have m5_2 : ¬ s + 1 + 1 + 1 + 1 + 1 = s + 1 + 1 := by omega
  have m5_3 : ¬ s + 1 + 1 + 1 + 1 + 1 = s + 1 + 1 + 1 := by omega
  unfold St
  simp [go_sem, *]
theorem words2 (Q : Int) (q0 : 0 ≤ Q) (q1 : 2 * Q < 340282366920938463463374607431768211456) : bits BinOp.or IntKind.u64 (IntKind.u64.wrap (hiW Q * 2)) (loW Q / 9223372036854775808) = hiW (2 * Q) ∧ IntKind.u64.wrap (loW Q * 2) = loW (2 * Q) ∧ bits BinOp.or IntKind.u64 (loW (2 * Q)) 1 = loW (2 * Q + 1) ∧ hiW (2 * Q + 1) = hiW (2 * Q) := by
  have l := lo_bd Q
  have h0 : 0 ≤ hiW Q := by unfold hiW; omega
  have h1 : hiW Q ≤ 9223372036854775807 := by unfold hiW; omega
  have e : IntKind.u64.wrap (hiW Q * 2) = 2 * hiW Q := by rw [IntKind.wrap_u64]; omega
  refine ⟨?_, ?_, ?_, ?_⟩
  · rw [e, or_bit _ _ h0 (by omega) (by omega) (by omega)]
    unfold hiW loW at *
    omega
  · rw [IntKind.wrap_u64]
    unfold loW at *
    omega
  · have e2 : loW (2 * Q) = 2 * (loW (2 * Q) / 2) := by unfold loW; omega
    have b := lo_bd (2 * Q)
    rw [e2, or_bit _ _ (by omega) (by omega) (by omega) (by omega)]
    unfold loW at *
    omega
  · unfold hiW
    omega
theorem wordsR (R b : Int) (r0 : 0 ≤ R) (r1 : R < 340282366920938463463374607431768211456) (b0 : 0 ≤ b) (b1 : b ≤ 1) : bits BinOp.or IntKind.u64 (IntKind.u64.wrap (hiW R * 2)) (loW R / 9223372036854775808) = hiW ((2 * R + b) % 340282366920938463463374607431768211456) ∧ bits BinOp.or IntKind.u64 (IntKind.u64.wrap (loW R * 2)) b = loW ((2 * R + b) % 340282366920938463463374607431768211456) := by
  have l := lo_bd R
  have h0 : 0 ≤ hiW R := by unfold hiW; omega
  have h1 : hiW R ≤ 18446744073709551615 := by unfold hiW; omega
  constructor
  · have e : IntKind.u64.wrap (hiW R * 2) = 2 * (hiW R % 9223372036854775808) := by rw [IntKind.wrap_u64]; omega
    rw [e, or_bit _ _ (by omega) (by omega) (by omega) (by omega)]
    unfold hiW loW at *
    omega
  · have e : IntKind.u64.wrap (loW R * 2) = 2 * (loW R % 9223372036854775808) := by rw [IntKind.wrap_u64]; omega
    rw [e, or_bit _ _ (by omega) b0 b1 (by omega)]
    unfold loW at *
    omega
end Go.Proofs.YtmpdicjjaoeblaaDoor
