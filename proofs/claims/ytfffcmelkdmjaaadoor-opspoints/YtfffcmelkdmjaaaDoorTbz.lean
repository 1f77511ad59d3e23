/-
  Guards as limits: Limits of the document.
-/
import Derived.Test.YtfffcmelkdmjaaaDoorTaz
namespace Go.Proofs.YtfffcmelkdmjaaaDoor
open Go.RowKit
set_option linter.unusedVariables false
set_option maxRecDepth 100000
set_option maxHeartbeats 4000000 in
theorem rlim_any (x o k n : Int) (w : World) (hk0 : 0 ≤ k) (hk1 : k < 256) :
    Calls Tryd.prog 35 #[.agg #[.int .i64 x, .int .i64 o, .int .u8 k, .int .i64 n]] w fun e w' => LimOut w' w.heap.size e x o k n ∧ Below w.heap.size w w' := by
  have B0 := hideD (below_one w (.cells #[.int .i64 x, .int .i64 o, .int .u8 k, .int .i64 n] 50))
  have c0 : (w.alloc (.cells #[.int .i64 x, .int .i64 o, .int .u8 k, .int .i64 n] 50)).cell? ⟨w.heap.size, 0, none⟩ = some (.int .i64 x) := by simp [go_sem]
  have c1 : (w.alloc (.cells #[.int .i64 x, .int .i64 o, .int .u8 k, .int .i64 n] 50)).cell? ⟨w.heap.size, 1, none⟩ = some (.int .i64 o) := by simp [go_sem]
  have c2 : (w.alloc (.cells #[.int .i64 x, .int .i64 o, .int .u8 k, .int .i64 n] 50)).cell? ⟨w.heap.size, 2, none⟩ = some (.int .u8 k) := by simp [go_sem]
  have c3 : (w.alloc (.cells #[.int .i64 x, .int .i64 o, .int .u8 k, .int .i64 n] 50)).cell? ⟨w.heap.size, 3, none⟩ = some (.int .i64 n) := by simp [go_sem]
  have FIN : Hid (∀ (w' : World) (e : Ending), ((gE x o k n != 0) = true ∧ e = .returned (.tuple #[.slice none 0 0, .int .i64 (gE x o k n)])) ∨ (gE x o k n = 0 ∧ ∃ g q cap, e = .returned (.tuple #[.slice (some ⟨g, 0, none⟩) q cap, .int .i64 0]) ∧ w.heap.size ≤ g ∧ g < w'.heap.size ∧ q = (gT x o k n).length ∧ ∀ j u, (tc (gT x o k n))[j]? = some u → w'.cell? ⟨g, j, none⟩ = some u) → LimOut w' w.heap.size e x o k n) := fun w' e h => h
  go_enter Tryd.func35, Tryd.ntmps35
  by_cases q0 : x < 0
  · skip
    have E : Hid (gE x o k n = 12) := by show _ = _; unfold gE; rw [if_neg (by omega)]
    go_wp2_with fail
    exact bodyPost_ret (v := .tuple #[.slice none 0 0, .int .i64 12]) (by simp [results, Tryd.results35, go_sem]) rfl ⟨FIN.out _ _ (.inl (by rw [E.out]; exact ⟨rfl, rfl⟩)), B0.out⟩
  · skip
    by_cases q1 : 8 < x
    · skip
      have E : Hid (gE x o k n = 12) := by show _ = _; unfold gE; rw [if_neg (by omega)]
      go_wp2_with fail
      exact bodyPost_ret (v := .tuple #[.slice none 0 0, .int .i64 12]) (by simp [results, Tryd.results35, go_sem]) rfl ⟨FIN.out _ _ (.inl (by rw [E.out]; exact ⟨rfl, rfl⟩)), B0.out⟩
    · skip
      by_cases q2 : o < 0
      · skip
        have E : Hid (gE x o k n = 12) := by show _ = _; unfold gE; rw [if_neg (by omega)]
        go_wp2_with fail
        exact bodyPost_ret (v := .tuple #[.slice none 0 0, .int .i64 12]) (by simp [results, Tryd.results35, go_sem]) rfl ⟨FIN.out _ _ (.inl (by rw [E.out]; exact ⟨rfl, rfl⟩)), B0.out⟩
      · skip
        by_cases q3 : 8 < o
        · skip
          have E : Hid (gE x o k n = 12) := by show _ = _; unfold gE; rw [if_neg (by omega)]
          go_wp2_with fail
          exact bodyPost_ret (v := .tuple #[.slice none 0 0, .int .i64 12]) (by simp [results, Tryd.results35, go_sem]) rfl ⟨FIN.out _ _ (.inl (by rw [E.out]; exact ⟨rfl, rfl⟩)), B0.out⟩
        · skip
          by_cases q4 : k < 1
          · skip
            have E : Hid (gE x o k n = 7) := by show _ = _; unfold gE; rw [if_pos (by omega), if_neg (by omega)]
            go_wp2_with fail
            exact bodyPost_ret (v := .tuple #[.slice none 0 0, .int .i64 7]) (by simp [results, Tryd.results35, go_sem]) rfl ⟨FIN.out _ _ (.inl (by rw [E.out]; exact ⟨rfl, rfl⟩)), B0.out⟩
          · skip
            by_cases q5 : 5 < k
            · skip
              have E : Hid (gE x o k n = 7) := by show _ = _; unfold gE; rw [if_pos (by omega), if_neg (by omega)]
              go_wp2_with fail
              exact bodyPost_ret (v := .tuple #[.slice none 0 0, .int .i64 7]) (by simp [results, Tryd.results35, go_sem]) rfl ⟨FIN.out _ _ (.inl (by rw [E.out]; exact ⟨rfl, rfl⟩)), B0.out⟩
            · skip
              by_cases q6 : n < -1048576
              · skip
                have E : Hid (gE x o k n = 13) := by show _ = _; unfold gE; rw [if_pos (by omega), if_pos (by omega), if_neg (by omega)]
                go_wp2_with fail
                exact bodyPost_ret (v := .tuple #[.slice none 0 0, .int .i64 13]) (by simp [results, Tryd.results35, go_sem]) rfl ⟨FIN.out _ _ (.inl (by rw [E.out]; exact ⟨rfl, rfl⟩)), B0.out⟩
              · skip
                by_cases q7 : 1048576 < n
                · skip
                  have E : Hid (gE x o k n = 13) := by show _ = _; unfold gE; rw [if_pos (by omega), if_pos (by omega), if_neg (by omega)]
                  go_wp2_with fail
                  exact bodyPost_ret (v := .tuple #[.slice none 0 0, .int .i64 13]) (by simp [results, Tryd.results35, go_sem]) rfl ⟨FIN.out _ _ (.inl (by rw [E.out]; exact ⟨rfl, rfl⟩)), B0.out⟩
                · skip
                  have E : Hid (gE x o k n = 0) := by show _ = _; unfold gE; rw [if_pos (by omega), if_pos (by omega), if_pos (by omega)]
                  have FIN2 : Hid (∀ (w' : World) (e : Ending) g q cap, e = .returned (.tuple #[.slice (some ⟨g, 0, none⟩) q cap, .int .i64 0]) → w.heap.size ≤ g → g < w'.heap.size → q = (gT x o k n).length → (∀ j u, (tc (gT x o k n))[j]? = some u → w'.cell? ⟨g, j, none⟩ = some u) → LimOut w' w.heap.size e x o k n) := fun w' e g q cap h1 h2 h3 h4 h5 => .inr ⟨E.out, g, q, cap, h1, h2, h3, h4, h5⟩
                  clear FIN E
                  have m1 : wrap64 (2 * n) = 2 * n := by unfold wrap64; omega
                  have m2 : wrap64 (2 * n + 1) = 2 * n + 1 := by unfold wrap64; omega
                  have m3 : IntKind.i32.wrap (2 * n + 1) = 2 * n + 1 := by rw [IntKind.wrap_i32]; omega
                  obtain rfl | rfl | rfl | rfl | rfl : k = 1 ∨ k = 2 ∨ k = 3 ∨ k = 4 ∨ k = 5 := by omega
                  · have GT : Hid (gT x o 1 n = [(x, o, 2 * n)]) := by
                      show _ = _
                      unfold gT
                      first | rfl | (simp; omega)
                    rw [GT.out] at FIN2
                    clear GT
                    go_wp2_with fail
                    refine bodyPost_ret (v := .tuple #[.slice (some ⟨w.heap.size + 1 + 1 + 1, 0, none⟩) 1 1, .int .i64 0]) (by simp [results, Tryd.results35, go_sem]) rfl ⟨FIN2.out _ _ _ _ _ rfl (by omega) (by simp) rfl (fun j u hj => ?_), ((B0.out.alloc (by simp) _).alloc (by simp; omega) _).alloc (by simp; omega) _⟩
                    rw [World.cell?_alloc_at _ _ _ _ (by simp)]
                    simpa [tc] using hj
                  · have GT : Hid (gT x o 2 n = [(x, o, 2 * n + 1)]) := by
                      show _ = _
                      unfold gT
                      first | rfl | (simp; omega)
                    rw [GT.out] at FIN2
                    clear GT
                    go_wp2_with fail
                    refine bodyPost_ret (v := .tuple #[.slice (some ⟨w.heap.size + 1 + 1 + 1, 0, none⟩) 1 1, .int .i64 0]) (by simp [results, Tryd.results35, go_sem]) rfl ⟨FIN2.out _ _ _ _ _ rfl (by omega) (by simp) rfl (fun j u hj => ?_), ((B0.out.alloc (by simp) _).alloc (by simp; omega) _).alloc (by simp; omega) _⟩
                    rw [World.cell?_alloc_at _ _ _ _ (by simp)]
                    simpa [tc] using hj
                  · have GT : Hid (gT x o 3 n = [(x, o, 2 * n + 1), (o, x, -2 * n + 1)]) := by
                      show _ = _
                      unfold gT
                      first | rfl | (simp; omega)
                    rw [GT.out] at FIN2
                    clear GT
                    go_wp2_with fail
                    refine bodyPost_ret (v := .tuple #[.slice (some ⟨w.heap.size + 1 + 1 + 1, 0, none⟩) 2 2, .int .i64 0]) (by simp [results, Tryd.results35, go_sem]) rfl ⟨FIN2.out _ _ _ _ _ rfl (by omega) (by simp) rfl (fun j u hj => ?_), ((B0.out.alloc (by simp) _).alloc (by simp; omega) _).alloc (by simp; omega) _⟩
                    rw [World.cell?_alloc_at _ _ _ _ (by simp)]
                    simpa [tc] using hj
                  · have GT : Hid (gT x o 4 n = [(o, x, -2 * n + 1)]) := by
                      show _ = _
                      unfold gT
                      first | rfl | (simp; omega)
                    rw [GT.out] at FIN2
                    clear GT
                    go_wp2_with fail
                    refine bodyPost_ret (v := .tuple #[.slice (some ⟨w.heap.size + 1 + 1 + 1, 0, none⟩) 1 1, .int .i64 0]) (by simp [results, Tryd.results35, go_sem]) rfl ⟨FIN2.out _ _ _ _ _ rfl (by omega) (by simp) rfl (fun j u hj => ?_), ((B0.out.alloc (by simp) _).alloc (by simp; omega) _).alloc (by simp; omega) _⟩
                    rw [World.cell?_alloc_at _ _ _ _ (by simp)]
                    simpa [tc] using hj
                  · have GT : Hid (gT x o 5 n = [(o, x, -2 * n)]) := by
                      show _ = _
                      unfold gT
                      first | rfl | (simp; omega)
                    rw [GT.out] at FIN2
                    clear GT
                    go_wp2_with fail
                    refine bodyPost_ret (v := .tuple #[.slice (some ⟨w.heap.size + 1 + 1 + 1, 0, none⟩) 1 1, .int .i64 0]) (by simp [results, Tryd.results35, go_sem]) rfl ⟨FIN2.out _ _ _ _ _ rfl (by omega) (by simp) rfl (fun j u hj => ?_), ((B0.out.alloc (by simp) _).alloc (by simp; omega) _).alloc (by simp; omega) _⟩
                    rw [World.cell?_alloc_at _ _ _ _ (by simp)]
                    simpa [tc] using hj
end Go.Proofs.YtfffcmelkdmjaaaDoor
