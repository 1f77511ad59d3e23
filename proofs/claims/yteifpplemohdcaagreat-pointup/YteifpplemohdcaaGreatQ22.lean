/-
  Guards as limits: ops.Limits of the program.
-/
import Derived.Test.YteifpplemohdcaaGreatQ21
import Derived.Test.YteifpplemohdcaaGreatQ2
import Derived.Deep.OwnRows
namespace Go.Proofs.YteifpplemohdcaaGreat
open Go.RowKit
set_option linter.unusedVariables false
set_option maxRecDepth 100000
theorem bounds_any (n : Nat) (i j x : Int) (w : World) :
    Calls Tryz.prog 113 #[.agg #[.int .i64 n], .agg #[.int .i64 i, .int .i64 j, .int .i32 x]] w fun e w' => e = .returned (.bool (decide (0 ≤ i ∧ i ≤ n ∧ 0 ≤ j ∧ j ≤ n))) ∧ Below w.heap.size w w' := by
  have B0 : Hid (Below w.heap.size w ((w.alloc (.cells #[.int .i64 n] 132)).alloc (.cells #[.int .i64 i, .int .i64 j, .int .i32 x] 95))) := ((Below.refl _ _).alloc (Nat.le_refl _) _).alloc (by simp) _
  by_cases h1 : 0 ≤ i
  · by_cases h2 : i ≤ n
    · by_cases h3 : 0 ≤ j
      · by_cases h4 : j ≤ n
        · rw [decide_eq_true ⟨h1, h2, h3, h4⟩]
          go_enter Tryz.func113, Tryz.ntmps113
          go_wp2_with fail
          go_ret
          exact ⟨rfl, B0.out⟩
        · rw [decide_eq_false (by omega)]
          go_enter Tryz.func113, Tryz.ntmps113
          go_wp2_with fail
          go_ret
          exact ⟨rfl, B0.out⟩
      · rw [decide_eq_false (by omega)]
        go_enter Tryz.func113, Tryz.ntmps113
        go_wp2_with fail
        go_ret
        exact ⟨rfl, B0.out⟩
    · rw [decide_eq_false (by omega)]
      go_enter Tryz.func113, Tryz.ntmps113
      go_wp2_with fail
      go_ret
      exact ⟨rfl, B0.out⟩
  · rw [decide_eq_false (by omega)]
    go_enter Tryz.func113, Tryz.ntmps113
    go_wp2_with fail
    go_ret
    exact ⟨rfl, B0.out⟩
theorem limitOf_any (i j n : Int) (s : Bool) (w : World) :
    Calls Tryz.prog 114 #[.int .i64 i, .int .i64 j, .int .i64 n, .bool s] w fun e w' => e = .returned (.agg #[.int .i64 i, .int .i64 j, .int .i32 (ofB n (!s))]) ∧ Below w.heap.size w w' := by
  have H1 : Hid (∀ w, Calls Tryz.prog 154 #[.int .i64 n] w fun e w' => e = .returned (.tuple #[.int .i32 (ofB n true), .int .i64 (ofE n)]) ∧ w' = w) := fun w => atMost_any n w
  have H2 : Hid (∀ w, Calls Tryz.prog 155 #[.int .i64 n] w fun e w' => e = .returned (.tuple #[.int .i32 (ofB n false), .int .i64 (ofE n)]) ∧ w' = w) := fun w => lessThan_any n w
  cases s
  · go_enter Tryz.func114, Tryz.ntmps114
    go_wp2_with fail
    refine (H1.out _).mono ?_
    rintro e w' ⟨rfl, rfl⟩
    go_wp2_with fail
    refine bodyPost_ret (v := .agg #[.int .i64 i, .int .i64 j, .int .i32 (ofB n true)]) (by simp [results, Tryz.results114, go_sem]) rfl ⟨rfl, ?_⟩
    exact below_one _ _
  · go_enter Tryz.func114, Tryz.ntmps114
    go_wp2_with fail
    refine (H1.out _).mono ?_
    rintro e w' ⟨rfl, rfl⟩
    go_wp2_with fail
    refine (H2.out _).mono ?_
    rintro e w' ⟨rfl, rfl⟩
    go_wp2_with fail
    refine bodyPost_ret (v := .agg #[.int .i64 i, .int .i64 j, .int .i32 (ofB n false)]) (by simp [results, Tryz.results114, go_sem]) rfl ⟨rfl, ?_⟩
    exact below_one _ _
abbrev Tri3 := Int × Int × Int
def tc (T : List Tri3) : List Value := T.flatMap fun t => [.int .i64 t.1, .int .i64 t.2.1, .int .i32 t.2.2]
theorem tc_app (T U : List Tri3) : tc (T ++ U) = tc T ++ tc U := by simp [tc]
theorem tc_len (T : List Tri3) : (tc T).length = T.length * 3 := by
  induction T with
  | nil => rfl
  | cons t T ih => rw [show t :: T = [t] ++ T from rfl, tc_app, List.length_append, ih]; simp [tc]; omega
/-- Why a guard is none. -/
def gE (x o k n : Int) : Int := if 0 ≤ x ∧ x ≤ 8 ∧ 0 ≤ o ∧ o ≤ 8 then (if 1 ≤ k ∧ k ≤ 5 then (if -1048576 ≤ n ∧ n ≤ 1048576 then 0 else 13) else 7) else 12
/-- The bounds that say what a guard says. -/
def gT (x o k n : Int) : List Tri3 := if k = 1 then [(x, o, 2 * n)] else if k = 2 then [(x, o, 2 * n + 1)] else if k = 4 then [(o, x, 2 * -n + 1)] else if k = 5 then [(o, x, 2 * -n)] else [(x, o, 2 * n + 1), (o, x, 2 * -n + 1)]
/-- What Limits tells. -/
def LimOut (w' : World) (B : Nat) (e : Ending) (x o k n : Int) : Prop := ((gE x o k n != 0) = true ∧ e = .returned (.tuple #[.slice none 0 0, .int .i64 (gE x o k n)])) ∨ (gE x o k n = 0 ∧ ∃ g q cap, e = .returned (.tuple #[.slice (some ⟨g, 0, none⟩) q cap, .int .i64 0]) ∧ B ≤ g ∧ g < w'.heap.size ∧ q = (gT x o k n).length ∧ ∀ j u, (tc (gT x o k n))[j]? = some u → w'.cell? ⟨g, j, none⟩ = some u)
theorem ofB_s {n : Int} (h0 : -1048576 ≤ n) (h1 : n ≤ 1048576) : ofB n true = 2 * n + 1 ∧ ofB n false = 2 * n ∧ ofB (-n) true = 2 * -n + 1 ∧ ofB (-n) false = 2 * -n := by
  unfold ofB
  refine ⟨?_, ?_, ?_, ?_⟩ <;> rw [if_neg (by omega)] <;> first | rw [if_pos rfl] | rw [if_neg (by decide)]
set_option maxHeartbeats 4000000 in
theorem plim_any (x o k n : Int) (w : World) (hk0 : 0 ≤ k) (hk1 : k < 256) :
    Calls Tryz.prog 44 #[.agg #[.int .i64 x, .int .i64 o, .int .u8 k, .int .i64 n]] w fun e w' => LimOut w' w.heap.size e x o k n ∧ Below w.heap.size w w' := by
  have B0 : Hid (Below w.heap.size w ((w.alloc (.cells #[.int .i64 x, .int .i64 o, .int .u8 k, .int .i64 n] 88)).alloc (.cells #[.int .i64 8] 132))) := ((Below.refl _ _).alloc (Nat.le_refl _) _).alloc (by simp) _
  have c0 : ((w.alloc (.cells #[.int .i64 x, .int .i64 o, .int .u8 k, .int .i64 n] 88)).alloc (.cells #[.int .i64 8] 132)).cell? ⟨w.heap.size, 0, none⟩ = some (.int .i64 x) := by simp [go_sem]
  have c1 : ((w.alloc (.cells #[.int .i64 x, .int .i64 o, .int .u8 k, .int .i64 n] 88)).alloc (.cells #[.int .i64 8] 132)).cell? ⟨w.heap.size, 1, none⟩ = some (.int .i64 o) := by simp [go_sem]
  have c2 : ((w.alloc (.cells #[.int .i64 x, .int .i64 o, .int .u8 k, .int .i64 n] 88)).alloc (.cells #[.int .i64 8] 132)).cell? ⟨w.heap.size, 2, none⟩ = some (.int .u8 k) := by simp [go_sem]
  have c3 : ((w.alloc (.cells #[.int .i64 x, .int .i64 o, .int .u8 k, .int .i64 n] 88)).alloc (.cells #[.int .i64 8] 132)).cell? ⟨w.heap.size, 3, none⟩ = some (.int .i64 n) := by simp [go_sem]
  have HB := hideD (fun w => bounds_any 8 x o 0 w)
  have HL1 := hideD (fun (s : Bool) w => limitOf_any x o n s w)
  have HL2 := hideD (fun (s : Bool) w => limitOf_any o x (-n) s w)
  have FIN : Hid (∀ (w' : World) (e : Ending), ((gE x o k n != 0) = true ∧ e = .returned (.tuple #[.slice none 0 0, .int .i64 (gE x o k n)])) ∨ (gE x o k n = 0 ∧ ∃ g q cap, e = .returned (.tuple #[.slice (some ⟨g, 0, none⟩) q cap, .int .i64 0]) ∧ w.heap.size ≤ g ∧ g < w'.heap.size ∧ q = (gT x o k n).length ∧ ∀ j u, (tc (gT x o k n))[j]? = some u → w'.cell? ⟨g, j, none⟩ = some u) → LimOut w' w.heap.size e x o k n) := fun w' e h => h
  go_enter Tryz.func44, Tryz.ntmps44
  go_wp2_with fail
  generalize (w.alloc (.cells #[.int .i64 x, .int .i64 o, .int .u8 k, .int .i64 n] 88)).alloc (.cells #[.int .i64 8] 132) = w0 at *
  refine (HB.out w0).mono ?_
  rintro e w1 ⟨rfl, hb1⟩
  have B1 := hideD (beyondD B0.out hb1)
  have d0 := kc _ _ hb1 c0
  have d1 := kc _ _ hb1 c1
  have d2 := kc _ _ hb1 c2
  have d3 := kc _ _ hb1 c3
  clear hb1 c0 c1 c2 c3 HB B0
  by_cases h1 : 0 ≤ x ∧ x ≤ 8 ∧ 0 ≤ o ∧ o ≤ 8
  · rw [show decide (0 ≤ x ∧ x ≤ ((8 : Nat) : Int) ∧ 0 ≤ o ∧ o ≤ ((8 : Nat) : Int)) = true from decide_eq_true (by omega)]
    by_cases k1 : k < 1
    · have E : Hid (gE x o k n = 7) := by show _ = _; unfold gE; rw [if_pos h1, if_neg (by omega)]
      go_wp2_with fail
      exact bodyPost_ret (v := .tuple #[.slice none 0 0, .int .i64 7]) (by simp [results, Tryz.results44, go_sem]) rfl ⟨FIN.out _ _ (.inl (by rw [E.out]; exact ⟨rfl, rfl⟩)), B1.out⟩
    · by_cases k5 : 5 < k
      · have E : Hid (gE x o k n = 7) := by show _ = _; unfold gE; rw [if_pos h1, if_neg (by omega)]
        go_wp2_with fail
        exact bodyPost_ret (v := .tuple #[.slice none 0 0, .int .i64 7]) (by simp [results, Tryz.results44, go_sem]) rfl ⟨FIN.out _ _ (.inl (by rw [E.out]; exact ⟨rfl, rfl⟩)), B1.out⟩
      · by_cases n0 : n < -1048576
        · have E : Hid (gE x o k n = 13) := by show _ = _; unfold gE; rw [if_pos h1, if_pos (by omega), if_neg (by omega)]
          go_wp2_with fail
          exact bodyPost_ret (v := .tuple #[.slice none 0 0, .int .i64 13]) (by simp [results, Tryz.results44, go_sem]) rfl ⟨FIN.out _ _ (.inl (by rw [E.out]; exact ⟨rfl, rfl⟩)), B1.out⟩
        · by_cases n1 : 1048576 < n
          · have E : Hid (gE x o k n = 13) := by show _ = _; unfold gE; rw [if_pos h1, if_pos (by omega), if_neg (by omega)]
            go_wp2_with fail
            exact bodyPost_ret (v := .tuple #[.slice none 0 0, .int .i64 13]) (by simp [results, Tryz.results44, go_sem]) rfl ⟨FIN.out _ _ (.inl (by rw [E.out]; exact ⟨rfl, rfl⟩)), B1.out⟩
          · have E : Hid (gE x o k n = 0) := by show _ = _; unfold gE; rw [if_pos h1, if_pos (by omega), if_pos (by omega)]
            have ng : wrap64 (-n) = -n := by unfold wrap64; omega
            have FIN2 : Hid (∀ (w' : World) (e : Ending) g q cap, e = .returned (.tuple #[.slice (some ⟨g, 0, none⟩) q cap, .int .i64 0]) → w.heap.size ≤ g → g < w'.heap.size → q = (gT x o k n).length → (∀ j u, (tc (gT x o k n))[j]? = some u → w'.cell? ⟨g, j, none⟩ = some u) → LimOut w' w.heap.size e x o k n) := fun w' e g q cap h1 h2 h3 h4 h5 => .inr ⟨E.out, g, q, cap, h1, h2, h3, h4, h5⟩
            obtain ⟨b1, b2, b3, b4⟩ := ofB_s (n := n) (by omega) (by omega)
            have hs1 := B1.out.size
            clear FIN E
            obtain rfl | rfl | rfl | rfl | rfl : k = 1 ∨ k = 2 ∨ k = 3 ∨ k = 4 ∨ k = 5 := by omega
            · have HA := HL1.out true
              have HBb := HL2.out false
              simp only [Bool.not_true, b2] at HA
              simp only [Bool.not_false, b3] at HBb
              have HA := hideD HA
              have HBb := hideD HBb
              have GT : Hid (gT x o 1 n = [(x, o, 2 * n)]) := rfl
              rw [GT.out] at FIN2
              generalize hA : (2 * n : Int) = va at *
              generalize hB : (2 * -n + 1 : Int) = vb at *
              clear hA hB b1 b2 b3 b4 HL1 HL2 GT
              go_wp2_with fail
              refine (HA.out _).mono ?_
              rintro e w2 ⟨rfl, hb2⟩
              have bo := below_one w2 (.cells #[.int .i64 x, .int .i64 o, .int .i32 va] 95)
              have B2 := hideD (beyondD (beyondD B1.out hb2) bo)
              have e0 := kc _ _ bo (kc _ _ hb2 d0)
              have e1 := kc _ _ bo (kc _ _ hb2 d1)
              have e2 := kc _ _ bo (kc _ _ hb2 d2)
              have e3 := kc _ _ bo (kc _ _ hb2 d3)
              have a0 : (w2.alloc (.cells #[.int .i64 x, .int .i64 o, .int .i32 va] 95)).cell? ⟨w2.heap.size, 0, none⟩ = some (.int .i64 x) := by simp [go_sem]
              have a1 : (w2.alloc (.cells #[.int .i64 x, .int .i64 o, .int .i32 va] 95)).cell? ⟨w2.heap.size, 1, none⟩ = some (.int .i64 o) := by simp [go_sem]
              have a2 : (w2.alloc (.cells #[.int .i64 x, .int .i64 o, .int .i32 va] 95)).cell? ⟨w2.heap.size, 2, none⟩ = some (.int .i32 va) := by simp [go_sem]
              clear hb2 bo HA d0 d1 d2 d3
              go_wp2_with fail
              generalize w2.alloc (.cells #[.int .i64 x, .int .i64 o, .int .i32 va] 95) = w3 at *
              generalize w2.heap.size = ba at *
              refine (HBb.out _).mono ?_
              rintro e w4 ⟨rfl, hb4⟩
              have bo := below_one w4 (.cells #[.int .i64 o, .int .i64 x, .int .i32 vb] 95)
              have B4 := hideD (beyondD (beyondD B2.out hb4) bo)
              have f2 := kc _ _ bo (kc _ _ hb4 e2)
              have g0 := kc _ _ bo (kc _ _ hb4 a0)
              have g1 := kc _ _ bo (kc _ _ hb4 a1)
              have g2 := kc _ _ bo (kc _ _ hb4 a2)
              have h0 : (w4.alloc (.cells #[.int .i64 o, .int .i64 x, .int .i32 vb] 95)).cell? ⟨w4.heap.size, 0, none⟩ = some (.int .i64 o) := by simp [go_sem]
              have h1' : (w4.alloc (.cells #[.int .i64 o, .int .i64 x, .int .i32 vb] 95)).cell? ⟨w4.heap.size, 1, none⟩ = some (.int .i64 x) := by simp [go_sem]
              have h2 : (w4.alloc (.cells #[.int .i64 o, .int .i64 x, .int .i32 vb] 95)).cell? ⟨w4.heap.size, 2, none⟩ = some (.int .i32 vb) := by simp [go_sem]
              have sz : w4.heap.size + 1 = (w4.alloc (.cells #[.int .i64 o, .int .i64 x, .int .i32 vb] 95)).heap.size := by simp
              have SZ := hideD sz
              clear hb4 bo HBb e0 e1 e2 e3 a0 a1 a2 sz
              go_wp2_with fail
              generalize w4.alloc (.cells #[.int .i64 o, .int .i64 x, .int .i32 vb] 95) = w5 at *
              generalize w4.heap.size = bb at *
              try go_wp2_with fail
              have hs5 := B4.out.size
              have sz := SZ.out
              refine bodyPost_ret (v := .tuple #[.slice (some ⟨bb + 1, 0, none⟩) 1 1, .int .i64 0]) (by simp [results, Tryz.results44, go_sem]) rfl ⟨FIN2.out _ _ _ _ _ rfl (by omega) (by rw [sz]; simp) rfl (fun j u hj => ?_), B4.out.alloc hs5 _⟩
              rw [sz, World.cell?_alloc_at _ _ _ _ rfl]
              simpa [tc] using hj
            · have HA := HL1.out false
              have HBb := HL2.out false
              simp only [Bool.not_false, b1] at HA
              simp only [Bool.not_false, b3] at HBb
              have HA := hideD HA
              have HBb := hideD HBb
              have GT : Hid (gT x o 2 n = [(x, o, 2 * n + 1)]) := rfl
              rw [GT.out] at FIN2
              generalize hA : (2 * n + 1 : Int) = va at *
              generalize hB : (2 * -n + 1 : Int) = vb at *
              clear hA hB b1 b2 b3 b4 HL1 HL2 GT
              go_wp2_with fail
              refine (HA.out _).mono ?_
              rintro e w2 ⟨rfl, hb2⟩
              have bo := below_one w2 (.cells #[.int .i64 x, .int .i64 o, .int .i32 va] 95)
              have B2 := hideD (beyondD (beyondD B1.out hb2) bo)
              have e0 := kc _ _ bo (kc _ _ hb2 d0)
              have e1 := kc _ _ bo (kc _ _ hb2 d1)
              have e2 := kc _ _ bo (kc _ _ hb2 d2)
              have e3 := kc _ _ bo (kc _ _ hb2 d3)
              have a0 : (w2.alloc (.cells #[.int .i64 x, .int .i64 o, .int .i32 va] 95)).cell? ⟨w2.heap.size, 0, none⟩ = some (.int .i64 x) := by simp [go_sem]
              have a1 : (w2.alloc (.cells #[.int .i64 x, .int .i64 o, .int .i32 va] 95)).cell? ⟨w2.heap.size, 1, none⟩ = some (.int .i64 o) := by simp [go_sem]
              have a2 : (w2.alloc (.cells #[.int .i64 x, .int .i64 o, .int .i32 va] 95)).cell? ⟨w2.heap.size, 2, none⟩ = some (.int .i32 va) := by simp [go_sem]
              clear hb2 bo HA d0 d1 d2 d3
              go_wp2_with fail
              generalize w2.alloc (.cells #[.int .i64 x, .int .i64 o, .int .i32 va] 95) = w3 at *
              generalize w2.heap.size = ba at *
              refine (HBb.out _).mono ?_
              rintro e w4 ⟨rfl, hb4⟩
              have bo := below_one w4 (.cells #[.int .i64 o, .int .i64 x, .int .i32 vb] 95)
              have B4 := hideD (beyondD (beyondD B2.out hb4) bo)
              have f2 := kc _ _ bo (kc _ _ hb4 e2)
              have g0 := kc _ _ bo (kc _ _ hb4 a0)
              have g1 := kc _ _ bo (kc _ _ hb4 a1)
              have g2 := kc _ _ bo (kc _ _ hb4 a2)
              have h0 : (w4.alloc (.cells #[.int .i64 o, .int .i64 x, .int .i32 vb] 95)).cell? ⟨w4.heap.size, 0, none⟩ = some (.int .i64 o) := by simp [go_sem]
              have h1' : (w4.alloc (.cells #[.int .i64 o, .int .i64 x, .int .i32 vb] 95)).cell? ⟨w4.heap.size, 1, none⟩ = some (.int .i64 x) := by simp [go_sem]
              have h2 : (w4.alloc (.cells #[.int .i64 o, .int .i64 x, .int .i32 vb] 95)).cell? ⟨w4.heap.size, 2, none⟩ = some (.int .i32 vb) := by simp [go_sem]
              have sz : w4.heap.size + 1 = (w4.alloc (.cells #[.int .i64 o, .int .i64 x, .int .i32 vb] 95)).heap.size := by simp
              have SZ := hideD sz
              clear hb4 bo HBb e0 e1 e2 e3 a0 a1 a2 sz
              go_wp2_with fail
              generalize w4.alloc (.cells #[.int .i64 o, .int .i64 x, .int .i32 vb] 95) = w5 at *
              generalize w4.heap.size = bb at *
              try go_wp2_with fail
              have hs5 := B4.out.size
              have sz := SZ.out
              refine bodyPost_ret (v := .tuple #[.slice (some ⟨bb + 1, 0, none⟩) 1 1, .int .i64 0]) (by simp [results, Tryz.results44, go_sem]) rfl ⟨FIN2.out _ _ _ _ _ rfl (by omega) (by rw [sz]; simp) rfl (fun j u hj => ?_), B4.out.alloc hs5 _⟩
              rw [sz, World.cell?_alloc_at _ _ _ _ rfl]
              simpa [tc] using hj
            · have HA := HL1.out false
              have HBb := HL2.out false
              simp only [Bool.not_false, b1] at HA
              simp only [Bool.not_false, b3] at HBb
              have HA := hideD HA
              have HBb := hideD HBb
              have GT : Hid (gT x o 3 n = [(x, o, 2 * n + 1), (o, x, 2 * -n + 1)]) := rfl
              rw [GT.out] at FIN2
              generalize hA : (2 * n + 1 : Int) = va at *
              generalize hB : (2 * -n + 1 : Int) = vb at *
              clear hA hB b1 b2 b3 b4 HL1 HL2 GT
              go_wp2_with fail
              refine (HA.out _).mono ?_
              rintro e w2 ⟨rfl, hb2⟩
              have bo := below_one w2 (.cells #[.int .i64 x, .int .i64 o, .int .i32 va] 95)
              have B2 := hideD (beyondD (beyondD B1.out hb2) bo)
              have e0 := kc _ _ bo (kc _ _ hb2 d0)
              have e1 := kc _ _ bo (kc _ _ hb2 d1)
              have e2 := kc _ _ bo (kc _ _ hb2 d2)
              have e3 := kc _ _ bo (kc _ _ hb2 d3)
              have a0 : (w2.alloc (.cells #[.int .i64 x, .int .i64 o, .int .i32 va] 95)).cell? ⟨w2.heap.size, 0, none⟩ = some (.int .i64 x) := by simp [go_sem]
              have a1 : (w2.alloc (.cells #[.int .i64 x, .int .i64 o, .int .i32 va] 95)).cell? ⟨w2.heap.size, 1, none⟩ = some (.int .i64 o) := by simp [go_sem]
              have a2 : (w2.alloc (.cells #[.int .i64 x, .int .i64 o, .int .i32 va] 95)).cell? ⟨w2.heap.size, 2, none⟩ = some (.int .i32 va) := by simp [go_sem]
              clear hb2 bo HA d0 d1 d2 d3
              go_wp2_with fail
              generalize w2.alloc (.cells #[.int .i64 x, .int .i64 o, .int .i32 va] 95) = w3 at *
              generalize w2.heap.size = ba at *
              refine (HBb.out _).mono ?_
              rintro e w4 ⟨rfl, hb4⟩
              have bo := below_one w4 (.cells #[.int .i64 o, .int .i64 x, .int .i32 vb] 95)
              have B4 := hideD (beyondD (beyondD B2.out hb4) bo)
              have f2 := kc _ _ bo (kc _ _ hb4 e2)
              have g0 := kc _ _ bo (kc _ _ hb4 a0)
              have g1 := kc _ _ bo (kc _ _ hb4 a1)
              have g2 := kc _ _ bo (kc _ _ hb4 a2)
              have h0 : (w4.alloc (.cells #[.int .i64 o, .int .i64 x, .int .i32 vb] 95)).cell? ⟨w4.heap.size, 0, none⟩ = some (.int .i64 o) := by simp [go_sem]
              have h1' : (w4.alloc (.cells #[.int .i64 o, .int .i64 x, .int .i32 vb] 95)).cell? ⟨w4.heap.size, 1, none⟩ = some (.int .i64 x) := by simp [go_sem]
              have h2 : (w4.alloc (.cells #[.int .i64 o, .int .i64 x, .int .i32 vb] 95)).cell? ⟨w4.heap.size, 2, none⟩ = some (.int .i32 vb) := by simp [go_sem]
              have sz : w4.heap.size + 1 = (w4.alloc (.cells #[.int .i64 o, .int .i64 x, .int .i32 vb] 95)).heap.size := by simp
              have SZ := hideD sz
              clear hb4 bo HBb e0 e1 e2 e3 a0 a1 a2 sz
              go_wp2_with fail
              generalize w4.alloc (.cells #[.int .i64 o, .int .i64 x, .int .i32 vb] 95) = w5 at *
              generalize w4.heap.size = bb at *
              try go_wp2_with fail
              have hs5 := B4.out.size
              have sz := SZ.out
              refine bodyPost_ret (v := .tuple #[.slice (some ⟨bb + 1, 0, none⟩) 2 2, .int .i64 0]) (by simp [results, Tryz.results44, go_sem]) rfl ⟨FIN2.out _ _ _ _ _ rfl (by omega) (by rw [sz]; simp) rfl (fun j u hj => ?_), B4.out.alloc hs5 _⟩
              rw [sz, World.cell?_alloc_at _ _ _ _ rfl]
              simpa [tc] using hj
            · have HA := HL1.out false
              have HBb := HL2.out false
              simp only [Bool.not_false, b1] at HA
              simp only [Bool.not_false, b3] at HBb
              have HA := hideD HA
              have HBb := hideD HBb
              have GT : Hid (gT x o 4 n = [(o, x, 2 * -n + 1)]) := rfl
              rw [GT.out] at FIN2
              generalize hA : (2 * n + 1 : Int) = va at *
              generalize hB : (2 * -n + 1 : Int) = vb at *
              clear hA hB b1 b2 b3 b4 HL1 HL2 GT
              go_wp2_with fail
              refine (HA.out _).mono ?_
              rintro e w2 ⟨rfl, hb2⟩
              have bo := below_one w2 (.cells #[.int .i64 x, .int .i64 o, .int .i32 va] 95)
              have B2 := hideD (beyondD (beyondD B1.out hb2) bo)
              have e0 := kc _ _ bo (kc _ _ hb2 d0)
              have e1 := kc _ _ bo (kc _ _ hb2 d1)
              have e2 := kc _ _ bo (kc _ _ hb2 d2)
              have e3 := kc _ _ bo (kc _ _ hb2 d3)
              have a0 : (w2.alloc (.cells #[.int .i64 x, .int .i64 o, .int .i32 va] 95)).cell? ⟨w2.heap.size, 0, none⟩ = some (.int .i64 x) := by simp [go_sem]
              have a1 : (w2.alloc (.cells #[.int .i64 x, .int .i64 o, .int .i32 va] 95)).cell? ⟨w2.heap.size, 1, none⟩ = some (.int .i64 o) := by simp [go_sem]
              have a2 : (w2.alloc (.cells #[.int .i64 x, .int .i64 o, .int .i32 va] 95)).cell? ⟨w2.heap.size, 2, none⟩ = some (.int .i32 va) := by simp [go_sem]
              clear hb2 bo HA d0 d1 d2 d3
              go_wp2_with fail
              generalize w2.alloc (.cells #[.int .i64 x, .int .i64 o, .int .i32 va] 95) = w3 at *
              generalize w2.heap.size = ba at *
              refine (HBb.out _).mono ?_
              rintro e w4 ⟨rfl, hb4⟩
              have bo := below_one w4 (.cells #[.int .i64 o, .int .i64 x, .int .i32 vb] 95)
              have B4 := hideD (beyondD (beyondD B2.out hb4) bo)
              have f2 := kc _ _ bo (kc _ _ hb4 e2)
              have g0 := kc _ _ bo (kc _ _ hb4 a0)
              have g1 := kc _ _ bo (kc _ _ hb4 a1)
              have g2 := kc _ _ bo (kc _ _ hb4 a2)
              have h0 : (w4.alloc (.cells #[.int .i64 o, .int .i64 x, .int .i32 vb] 95)).cell? ⟨w4.heap.size, 0, none⟩ = some (.int .i64 o) := by simp [go_sem]
              have h1' : (w4.alloc (.cells #[.int .i64 o, .int .i64 x, .int .i32 vb] 95)).cell? ⟨w4.heap.size, 1, none⟩ = some (.int .i64 x) := by simp [go_sem]
              have h2 : (w4.alloc (.cells #[.int .i64 o, .int .i64 x, .int .i32 vb] 95)).cell? ⟨w4.heap.size, 2, none⟩ = some (.int .i32 vb) := by simp [go_sem]
              have sz : w4.heap.size + 1 = (w4.alloc (.cells #[.int .i64 o, .int .i64 x, .int .i32 vb] 95)).heap.size := by simp
              have SZ := hideD sz
              clear hb4 bo HBb e0 e1 e2 e3 a0 a1 a2 sz
              go_wp2_with fail
              generalize w4.alloc (.cells #[.int .i64 o, .int .i64 x, .int .i32 vb] 95) = w5 at *
              generalize w4.heap.size = bb at *
              try go_wp2_with fail
              have hs5 := B4.out.size
              have sz := SZ.out
              refine bodyPost_ret (v := .tuple #[.slice (some ⟨bb + 1, 0, none⟩) 1 1, .int .i64 0]) (by simp [results, Tryz.results44, go_sem]) rfl ⟨FIN2.out _ _ _ _ _ rfl (by omega) (by rw [sz]; simp) rfl (fun j u hj => ?_), B4.out.alloc hs5 _⟩
              rw [sz, World.cell?_alloc_at _ _ _ _ rfl]
              simpa [tc] using hj
            · have HA := HL1.out false
              have HBb := HL2.out true
              simp only [Bool.not_false, b1] at HA
              simp only [Bool.not_true, b4] at HBb
              have HA := hideD HA
              have HBb := hideD HBb
              have GT : Hid (gT x o 5 n = [(o, x, 2 * -n)]) := rfl
              rw [GT.out] at FIN2
              generalize hA : (2 * n + 1 : Int) = va at *
              generalize hB : (2 * -n : Int) = vb at *
              clear hA hB b1 b2 b3 b4 HL1 HL2 GT
              go_wp2_with fail
              refine (HA.out _).mono ?_
              rintro e w2 ⟨rfl, hb2⟩
              have bo := below_one w2 (.cells #[.int .i64 x, .int .i64 o, .int .i32 va] 95)
              have B2 := hideD (beyondD (beyondD B1.out hb2) bo)
              have e0 := kc _ _ bo (kc _ _ hb2 d0)
              have e1 := kc _ _ bo (kc _ _ hb2 d1)
              have e2 := kc _ _ bo (kc _ _ hb2 d2)
              have e3 := kc _ _ bo (kc _ _ hb2 d3)
              have a0 : (w2.alloc (.cells #[.int .i64 x, .int .i64 o, .int .i32 va] 95)).cell? ⟨w2.heap.size, 0, none⟩ = some (.int .i64 x) := by simp [go_sem]
              have a1 : (w2.alloc (.cells #[.int .i64 x, .int .i64 o, .int .i32 va] 95)).cell? ⟨w2.heap.size, 1, none⟩ = some (.int .i64 o) := by simp [go_sem]
              have a2 : (w2.alloc (.cells #[.int .i64 x, .int .i64 o, .int .i32 va] 95)).cell? ⟨w2.heap.size, 2, none⟩ = some (.int .i32 va) := by simp [go_sem]
              clear hb2 bo HA d0 d1 d2 d3
              go_wp2_with fail
              generalize w2.alloc (.cells #[.int .i64 x, .int .i64 o, .int .i32 va] 95) = w3 at *
              generalize w2.heap.size = ba at *
              refine (HBb.out _).mono ?_
              rintro e w4 ⟨rfl, hb4⟩
              have bo := below_one w4 (.cells #[.int .i64 o, .int .i64 x, .int .i32 vb] 95)
              have B4 := hideD (beyondD (beyondD B2.out hb4) bo)
              have f2 := kc _ _ bo (kc _ _ hb4 e2)
              have g0 := kc _ _ bo (kc _ _ hb4 a0)
              have g1 := kc _ _ bo (kc _ _ hb4 a1)
              have g2 := kc _ _ bo (kc _ _ hb4 a2)
              have h0 : (w4.alloc (.cells #[.int .i64 o, .int .i64 x, .int .i32 vb] 95)).cell? ⟨w4.heap.size, 0, none⟩ = some (.int .i64 o) := by simp [go_sem]
              have h1' : (w4.alloc (.cells #[.int .i64 o, .int .i64 x, .int .i32 vb] 95)).cell? ⟨w4.heap.size, 1, none⟩ = some (.int .i64 x) := by simp [go_sem]
              have h2 : (w4.alloc (.cells #[.int .i64 o, .int .i64 x, .int .i32 vb] 95)).cell? ⟨w4.heap.size, 2, none⟩ = some (.int .i32 vb) := by simp [go_sem]
              have sz : w4.heap.size + 1 = (w4.alloc (.cells #[.int .i64 o, .int .i64 x, .int .i32 vb] 95)).heap.size := by simp
              have SZ := hideD sz
              clear hb4 bo HBb e0 e1 e2 e3 a0 a1 a2 sz
              go_wp2_with fail
              generalize w4.alloc (.cells #[.int .i64 o, .int .i64 x, .int .i32 vb] 95) = w5 at *
              generalize w4.heap.size = bb at *
              try go_wp2_with fail
              have hs5 := B4.out.size
              have sz := SZ.out
              refine bodyPost_ret (v := .tuple #[.slice (some ⟨bb + 1, 0, none⟩) 1 1, .int .i64 0]) (by simp [results, Tryz.results44, go_sem]) rfl ⟨FIN2.out _ _ _ _ _ rfl (by omega) (by rw [sz]; simp) rfl (fun j u hj => ?_), B4.out.alloc hs5 _⟩
              rw [sz, World.cell?_alloc_at _ _ _ _ rfl]
              simpa [tc] using hj
  · rw [show decide (0 ≤ x ∧ x ≤ ((8 : Nat) : Int) ∧ 0 ≤ o ∧ o ≤ ((8 : Nat) : Int)) = false from decide_eq_false (by omega)]
    have E : Hid (gE x o k n = 12) := by show _ = _; unfold gE; rw [if_neg h1]
    go_wp2_with fail
    exact bodyPost_ret (v := .tuple #[.slice none 0 0, .int .i64 12]) (by simp [results, Tryz.results44, go_sem]) rfl ⟨FIN.out _ _ (.inl (by rw [E.out]; exact ⟨rfl, rfl⟩)), B1.out⟩
end Go.Proofs.YteifpplemohdcaaGreat
