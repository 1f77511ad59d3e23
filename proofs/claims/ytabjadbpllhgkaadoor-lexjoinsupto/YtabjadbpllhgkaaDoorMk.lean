/-
  The statement on lex.Next: its walk.
-/
import Derived.Test.YtabjadbpllhgkaaDoorMj
import Derived.Test.YtabjadbpllhgkaaDoorMd
namespace Go.Proofs.YtabjadbpllhgkaaDoor
open Go.RowKit
set_option linter.unusedVariables false
set_option maxRecDepth 100000 in
theorem same_any (k : Int) (t : ByteArray) (n a : Int) (k0 : 0 ≤ k) (k1 : k ≤ 255) (w : World) : Calls Tryd.prog 12 #[tokV k t n a, tokX k t n a] w fun e w' => e = .returned (.bool true) ∧ Below w.heap.size w w' := by
  have e1 : IntKind.i64.wrap k = k := by rw [IntKind.wrap_i64]; omega
  go_enter Tryd.func12, Tryd.ntmps12
  go_wp2
  go_ret
  exact ⟨rfl, Below.alloc (Below.alloc (Below.refl _ _) (Nat.le_refl _) _) (by simp) _⟩
theorem firstM_kind : ∀ l : List UInt8, 0 ≤ (firstM l).2.1 ∧ (firstM l).2.1 ≤ 3
  | [] => by decide
  | c :: l => by
    rw [firstM]
    split
    · exact ⟨(by decide : (0 : Int) ≤ 1), (by decide : (1 : Int) ≤ 3)⟩
    · split
      · generalize List.take (spanL digI (c :: l)) (c :: l) = d
        unfold numM
        split
        · decide
        · cases numU d 0 with
          | none => exact ⟨(by decide : (0 : Int) ≤ 0), (by decide : (0 : Int) ≤ 3)⟩
          | some n => exact ⟨(by decide : (0 : Int) ≤ 2), (by decide : (2 : Int) ≤ 3)⟩
      · split
        · split <;> decide
        · split
          · decide
          · split
            · split <;> decide
            · decide
/-- What Next tells, of both: by letters. -/
def NextAt (s : ByteArray) (i k : Int) (t : ByteArray) (n a b e : Int) : Prop :=
  (∀ w, Calls Tryd.prog 9 #[.string s, .int .i64 i] w fun x w' => x = .returned (.tuple #[tokV k t n a, .int .i64 b, .int .i64 e]) ∧ Below w.heap.size w w') ∧
  (∀ w, Calls Tryd.prog 10 #[.string s, .int .i64 i] w fun x w' => x = .returned (.tuple #[tokX k t n a, .int .i64 b, .int .i64 e]) ∧ Below w.heap.size w w') ∧ 0 ≤ k ∧ k ≤ 255
theorem next_both (s : ByteArray) (i : Int) (hs : s.size ≤ 140737488355328) : ∃ k t n a b e, NextAt s i k t n a b e := by
  by_cases h : i < 0 ∨ (s.size : Int) < i
  · exact ⟨0, ⟨#[]⟩, 0, 0, 0, 2, fun w => next_out s i w hs h, fun w => xnext_out s i w hs h, by decide, by decide⟩
  · obtain ⟨a, rfl⟩ : ∃ a : Nat, i = a := ⟨i.toNat, by omega⟩
    have ha : a ≤ s.size := by omega
    have h1 := fun w => next_in s a w ha hs
    have h2 := fun w => xnext_in s a w ha hs
    have hk := firstM_kind (s.data.toList.drop (begL s.data.toList a))
    rw [show firstM (s.data.toList.drop (begL s.data.toList a)) = tokL s.data.toList a from rfl] at hk
    unfold nextV at h1
    unfold nextXV at h2
    generalize tokL s.data.toList a = r at *
    obtain ⟨r0, r1, r2, r3⟩ := r
    by_cases c : r0 = 0
    · subst c
      exact ⟨_, _, _, _, _, _, h1, h2, hk.1, by have := hk.2; simp only at this; omega⟩
    · unfold nextW at h1
      unfold nextXW at h2
      simp only [if_neg c] at h1 h2
      exact ⟨_, _, _, _, _, _, h1, h2, by decide, by decide⟩
namespace lexNext
set_option maxRecDepth 100000 in
set_option maxHeartbeats 1000000 in
theorem walk (s : ByteArray) (_ : s.size ≤ maxLen) (i : Int) (_ : (Lit.int .i64 i).wf = true) (w : World) (hk : Kept w) (hs : s.size ≤ 140737488355328) :
    Calls Tryd.prog 3 #[.string s, .int .i64 i] w fun e w' => e = .returned (.bool true) ∧ Below w.heap.size w w' := by
  obtain ⟨k, t, n, a, b, e, H1, H2, k0, k1⟩ := next_both s i hs
  have N1 := hideR H1
  have N2 := hideR H2
  have HK := hideR hk
  have SM := hideR (fun w => same_any k t n a k0 k1 w)
  clear H1 H2 hk
  go_enter Tryd.func3, Tryd.ntmps3
  go_wp2_with fail
  refine (N1.out _).mono ?_
  rintro e w1 ⟨rfl, hb1⟩
  have HK1 := hideR (kept_later HK.out hb1)
  clear HK
  go_wp2_with fail
  have c0 : (w1.alloc (.cells #[.int .u8 k, .string t, .int .i64 n, .int .i64 a] 24)).cell? ⟨w1.heap.size, 0, none⟩ = some (.int .u8 k) := by simp [go_sem]
  have c1 : (w1.alloc (.cells #[.int .u8 k, .string t, .int .i64 n, .int .i64 a] 24)).cell? ⟨w1.heap.size, 1, none⟩ = some (.string t) := by simp [go_sem]
  have c2 : (w1.alloc (.cells #[.int .u8 k, .string t, .int .i64 n, .int .i64 a] 24)).cell? ⟨w1.heap.size, 2, none⟩ = some (.int .i64 n) := by simp [go_sem]
  have c3 : (w1.alloc (.cells #[.int .u8 k, .string t, .int .i64 n, .int .i64 a] 24)).cell? ⟨w1.heap.size, 3, none⟩ = some (.int .i64 a) := by simp [go_sem]
  have hb2 : Below w.heap.size w (w1.alloc (.cells #[.int .u8 k, .string t, .int .i64 n, .int .i64 a] 24)) := beyond hb1 (Below.alloc (Below.refl _ _) (Nat.le_refl _) _)
  have HK2 := hideR (kept_later HK1.out (Below.alloc (Below.refl _ _) (Nat.le_refl _) (.cells #[.int .u8 k, .string t, .int .i64 n, .int .i64 a] 24)))
  have l1 : w1.heap.size < (w1.alloc (.cells #[.int .u8 k, .string t, .int .i64 n, .int .i64 a] 24)).heap.size := by simp
  generalize w1.alloc (.cells #[.int .u8 k, .string t, .int .i64 n, .int .i64 a] 24) = W1 at *
  generalize w1.heap.size = B1 at *
  clear HK1 hb1
  refine (N2.out _).mono ?_
  rintro e w2 ⟨rfl, hb3⟩
  have HK3 := hideR (kept_later HK2.out hb3)
  replace c0 := (hb3.cell (p := ⟨B1, 0, none⟩) l1).trans c0
  replace c1 := (hb3.cell (p := ⟨B1, 1, none⟩) l1).trans c1
  replace c2 := (hb3.cell (p := ⟨B1, 2, none⟩) l1).trans c2
  replace c3 := (hb3.cell (p := ⟨B1, 3, none⟩) l1).trans c3
  have l2 : B1 < w2.heap.size := Nat.lt_of_lt_of_le l1 hb3.size
  replace hb2 := beyond hb2 hb3
  clear hb3 l1 HK2 N1 N2
  go_wp2_with fail
  have d0 : (w2.alloc (.cells #[.int .i64 k, .string t, .int .i64 n, .int .i64 a] 29)).cell? ⟨w2.heap.size, 0, none⟩ = some (.int .i64 k) := by simp [go_sem]
  have d1 : (w2.alloc (.cells #[.int .i64 k, .string t, .int .i64 n, .int .i64 a] 29)).cell? ⟨w2.heap.size, 1, none⟩ = some (.string t) := by simp [go_sem]
  have d2 : (w2.alloc (.cells #[.int .i64 k, .string t, .int .i64 n, .int .i64 a] 29)).cell? ⟨w2.heap.size, 2, none⟩ = some (.int .i64 n) := by simp [go_sem]
  have d3 : (w2.alloc (.cells #[.int .i64 k, .string t, .int .i64 n, .int .i64 a] 29)).cell? ⟨w2.heap.size, 3, none⟩ = some (.int .i64 a) := by simp [go_sem]
  have hb3 : Below w2.heap.size w2 (w2.alloc (.cells #[.int .i64 k, .string t, .int .i64 n, .int .i64 a] 29)) := Below.alloc (Below.refl _ _) (Nat.le_refl _) _
  have l3 : w2.heap.size < (w2.alloc (.cells #[.int .i64 k, .string t, .int .i64 n, .int .i64 a] 29)).heap.size := by simp
  generalize w2.alloc (.cells #[.int .i64 k, .string t, .int .i64 n, .int .i64 a] 29) = W2 at *
  replace c0 := (hb3.cell (p := ⟨B1, 0, none⟩) l2).trans c0
  replace c1 := (hb3.cell (p := ⟨B1, 1, none⟩) l2).trans c1
  replace c2 := (hb3.cell (p := ⟨B1, 2, none⟩) l2).trans c2
  replace c3 := (hb3.cell (p := ⟨B1, 3, none⟩) l2).trans c3
  have HK4 := hideR (kept_later HK3.out hb3)
  replace hb2 := beyond hb2 hb3
  have l4 : B1 < W2.heap.size := by omega
  generalize w2.heap.size = B2 at *
  clear hb3 HK3 l2
  refine (live_any _ HK4.out).mono ?_
  rintro e w3 ⟨rfl, hb3⟩
  replace c0 := (hb3.cell (p := ⟨B1, 0, none⟩) l4).trans c0
  replace c1 := (hb3.cell (p := ⟨B1, 1, none⟩) l4).trans c1
  replace c2 := (hb3.cell (p := ⟨B1, 2, none⟩) l4).trans c2
  replace c3 := (hb3.cell (p := ⟨B1, 3, none⟩) l4).trans c3
  replace d0 := (hb3.cell (p := ⟨B2, 0, none⟩) l3).trans d0
  replace d1 := (hb3.cell (p := ⟨B2, 1, none⟩) l3).trans d1
  replace d2 := (hb3.cell (p := ⟨B2, 2, none⟩) l3).trans d2
  replace d3 := (hb3.cell (p := ⟨B2, 3, none⟩) l3).trans d3
  replace hb2 := beyond hb2 hb3
  clear hb3 HK4 l3 l4
  go_wp2_with fail
  refine (SM.out _).mono ?_
  rintro e w4 ⟨rfl, hb3⟩
  replace hb2 := beyond hb2 hb3
  clear hb3
  go_wp2_with fail
  go_ret
  exact ⟨rfl, hb2⟩
end lexNext
end Go.Proofs.YtabjadbpllhgkaaDoor
