/-
  lex.number.
-/
import Derived.Test.YtdofnjlnleofjaaDoorLd
namespace Go.Proofs.YtdofnjlnleofjaaDoor
open Go.RowKit
set_option linter.unusedVariables false
/-- A number of digits, as far as it may be. -/
def numU : List UInt8 → Nat → Option Nat
  | [], n => some n
  | c :: l, n => if (2147483647 - (c.toNat - 48)) / 10 < n then none else numU l (10 * n + (c.toNat - 48))
theorem numU_bd : ∀ (l : List UInt8) (n m : Nat), n ≤ 2147483647 → numU l n = some m → m ≤ 2147483647
  | [], n, m, h, e => by
    injection e with e
    omega
  | c :: l, n, m, h, e => by
    rw [numU] at e
    split at e
    · cases e
    · rename_i q
      by_cases d : c.toNat - 48 ≤ 2147483647
      · exact numU_bd l _ m (by omega) e
      · have := c.toNat_lt
        omega
abbrev tokV (k : Int) (t : ByteArray) (n a : Int) : Value := .agg #[.int .u8 k, .string t, .int .i64 n, .int .i64 a]
/-- A token that is to be answered lies in a block. -/
def TokAt (wr w : World) : Prop := wr.cell? ⟨w.heap.size, 0, none⟩ = some (.int .u8 0) ∧ wr.cell? ⟨w.heap.size, 1, none⟩ = some (.string ⟨#[]⟩) ∧ wr.cell? ⟨w.heap.size, 2, none⟩ = some (.int .i64 0) ∧ wr.cell? ⟨w.heap.size, 3, none⟩ = some (.int .i64 0) ∧ wr.frozen? ⟨w.heap.size, 0, none⟩ = false ∧ wr.frozen? ⟨w.heap.size, 1, none⟩ = false ∧ wr.frozen? ⟨w.heap.size, 2, none⟩ = false ∧ wr.frozen? ⟨w.heap.size, 3, none⟩ = false ∧ Below w.heap.size w wr
theorem tok_start (w : World) : TokAt (w.alloc (.cells #[.int .u8 0, .string ⟨#[]⟩, .int .i64 0, .int .i64 0] 30)) w := ⟨by simp [go_sem], by simp [go_sem], by simp [go_sem], by simp [go_sem], by simp [go_sem], by simp [go_sem], by simp [go_sem], by simp [go_sem], Below.alloc (Below.refl _ _) (Nat.le_refl _) _⟩
theorem set4 {w W : World} {b : Nat} (h : Below w.heap.size w W) (hb : w.heap.size ≤ b) (x0 x1 x2 x3 : Value) : Below w.heap.size w ((((W.setCell ⟨b, 0, none⟩ x0).setCell ⟨b, 1, none⟩ x1).setCell ⟨b, 2, none⟩ x2).setCell ⟨b, 3, none⟩ x3) :=
  Below.setCell (p := ⟨b, 3, none⟩) (Below.setCell (p := ⟨b, 2, none⟩) (Below.setCell (p := ⟨b, 1, none⟩) (Below.setCell (p := ⟨b, 0, none⟩) h hb _) hb _) hb _) hb _
theorem digI_bd {x : Int} (h : digI x = true) : 48 ≤ x ∧ x ≤ 57 := by simpa [digI] using h
set_option maxRecDepth 100000 in
set_option maxHeartbeats 1000000 in
theorem number_nought (s : ByteArray) (w : World) (hp : 1 < s.size) (hs : s.size ≤ 140737488355328) (h0 : ((s[0].toNat : Int) == 48) = true) :
    Calls Tryd.prog 18 #[.string s] w fun e w' => e = .returned (.tuple #[tokV 0 ⟨#[]⟩ 0 0, .int .i64 91]) ∧ Below w.heap.size w w' := by
  have hz : 0 < s.size := by omega
  have hne : ¬ s = ByteArray.empty := by rintro rfl; simp at hz
  have h3 : (0 : Int) < (s.size : Int) := by omega
  have h4 : (1 : Int) < (s.size : Int) := by omega
  have T0 := tok_start w
  go_enter Tryd.func18, Tryd.ntmps18
  go_wp2_with fail
  refine bodyPost_ret (v := .tuple #[tokV 0 ⟨#[]⟩ 0 0, .int .i64 91]) (by simp [results, Tryd.results18, go_sem, *]) rfl ⟨rfl, ?_⟩
  first | exact T0.2.2.2.2.2.2.2.2 | exact set4 T0.2.2.2.2.2.2.2.2 (Nat.le_refl _) _ _ _ _
def numW (s : ByteArray) : Option Nat → Value
  | none => .tuple #[tokV 0 ⟨#[]⟩ 0 0, .int .i64 91]
  | some n => .tuple #[tokV 2 s n 0, .int .i64 0]
set_option maxRecDepth 100000 in
set_option maxHeartbeats 2000000 in
theorem number_a (s : ByteArray) (w : World) (hp : 0 < s.size) (hs : s.size ≤ 140737488355328) (hd : ∀ k (h : k < s.size), digI (s[k].toNat : Int) = true) (h0 : ((s[0].toNat : Int) == 48) = false) :
    Calls Tryd.prog 18 #[.string s] w fun e w' => e = .returned (numW s (numU s.data.toList 0)) ∧ Below w.heap.size w w' := by
  have hne : ¬ s = ByteArray.empty := by rintro rfl; simp at hp
  have h3 : (0 : Int) < (s.size : Int) := by omega
  have HD := hideR hd
  have DN : Hid (∀ k (h : k < s.size), s.data.toList.drop k = s[k] :: s.data.toList.drop (k + 1)) := fun k h => drop_next s k h
  have DE : Hid (s.data.toList.drop s.size = []) := by show _ = _; rw [← len_of s]; exact List.drop_length
  have T0 := hideR (tok_start w)
  clear hd
  go_enter Tryd.func18, Tryd.ntmps18
  go_wp2_with fail
  generalize w.alloc (.cells #[.int .u8 0, .string ⟨#[]⟩, .int .i64 0, .int .i64 0] 30) = W at *
  go_loopw [4, 18] (fun n i wr => ∃ (k u : Nat), k ≤ s.size ∧ i = .int .i64 k ∧ n = .int .i64 u ∧ u ≤ 2147483647 ∧ Hid (TokAt wr w) ∧ Hid (numU s.data.toList 0 = numU (s.data.toList.drop k) u)) (fun _ i _ => s.size - (intOf i).toNat)
  case atStart => exact ⟨0, 0, by omega, rfl, rfl, by omega, T0, rfl⟩
  case round =>
    obtain ⟨k, u, hk, rfl, rfl, hu, TA, E⟩ := hrel
    clear T0
    by_cases ck : k < s.size
    · have k0 : (0 : Int) ≤ (k : Int) := by omega
      have k1 : (k : Int) < (s.size : Int) := by omega
      obtain ⟨d0, d1⟩ := digI_bd (HD.out k ck)
      have NX : Hid (numU s.data.toList 0 = if (2147483647 - (s[k].toNat - 48)) / 10 < u then none else numU (s.data.toList.drop (k + 1)) (10 * u + (s[k].toNat - 48))) := by
        show _ = _
        rw [E.out, DN.out k ck, numU]
      have e1 : IntKind.u8.wrap ((s[k].toNat : Int) - 48) = ((s[k].toNat - 48 : Nat) : Int) := by simp only [IntKind.wrap_u8]; omega
      have dd := hideR (show s[k].toNat - 48 ≤ 9 by omega)
      clear E
      generalize s[k].toNat - 48 = D at *
      have e2 : IntKind.i64.wrap (D : Int) = (D : Int) := by rw [IntKind.wrap_i64]; have := dd.out; omega
      have e3 : IntKind.i64.wrap (2147483647 - (D : Int)) = ((2147483647 - D : Nat) : Int) := by rw [IntKind.wrap_i64]; have := dd.out; omega
      have e4 : IntKind.i64.wrap (((2147483647 - D : Nat) : Int).tdiv 10) = (((2147483647 - D) / 10 : Nat) : Int) := by
        have : ((2147483647 - D : Nat) : Int).tdiv 10 = (((2147483647 - D) / 10 : Nat) : Int) := by rw [Int.tdiv_eq_ediv_of_nonneg (by omega)]; omega
        rw [this, IntKind.wrap_i64]
        omega
      have e5 : IntKind.i64.wrap (10 * (u : Int)) = 10 * (u : Int) := by rw [IntKind.wrap_i64]; omega
      by_cases c : (2147483647 - D) / 10 < u
      · have R : Hid (numU s.data.toList 0 = none) := by show _ = _; rw [NX.out, if_pos c]
        have c' : decide ((((2147483647 - D) / 10 : Nat) : Int) < (u : Int)) = true := by simp; omega
        obtain ⟨a0, a1, a2, a3, f0, f1, f2, f3, B0⟩ := TA.out
        have c2 : decide (((2147483647 - D : Nat) : Int) / 10 < (u : Int)) = true := by simp; omega
        clear NX TA c d0 d1
        go_wp2_with fail
        refine bodyPost_ret (v := .tuple #[tokV 0 ⟨#[]⟩ 0 0, .int .i64 91]) (by simp [results, Tryd.results18, go_sem, *]) rfl ⟨by rw [R.out]; rfl, ?_⟩
        first | exact B0 | exact set4 B0 (Nat.le_refl _) _ _ _ _
      · have R : Hid (numU s.data.toList 0 = numU (s.data.toList.drop (k + 1)) (10 * u + D)) := by show _ = _; rw [NX.out, if_neg c]
        have c' : decide ((((2147483647 - D) / 10 : Nat) : Int) < (u : Int)) = false := by simp; omega
        have e6 : IntKind.i64.wrap (10 * (u : Int) + (D : Int)) = 10 * (u : Int) + (D : Int) := by rw [IntKind.wrap_i64]; have := dd.out; omega
        have c3 : ¬ (((2147483647 - D : Nat) : Int) / 10 < (u : Int)) := by omega
        have U := hideR (show 10 * u + D ≤ 2147483647 by have := dd.out; omega)
        clear NX c d0 d1 c' e4
        go_wp2_with fail
        go_roundw
        case rel => exact ⟨k + 1, 10 * u + D, by omega, by go_num, by first | (congr 1; omega) | go_num, U.out, TA, R⟩
        case measure => simp [intOf]; omega
    · obtain rfl : k = s.size := by omega
      have R : Hid (numU s.data.toList 0 = some u) := by show _ = _; rw [E.out, DE.out]; rfl
      have k1 : decide ((s.size : Int) < (s.size : Int)) = false := by simp
      obtain ⟨a0, a1, a2, a3, f0, f1, f2, f3, B0⟩ := TA.out
      clear E TA
      go_wp2_with fail
      refine bodyPost_ret (v := .tuple #[tokV 2 s u 0, .int .i64 0]) (by simp [results, Tryd.results18, go_sem, *]) rfl ⟨by rw [R.out]; rfl, ?_⟩
      exact set4 B0 (Nat.le_refl _) _ _ _ _
end Go.Proofs.YtdofnjlnleofjaaDoor
