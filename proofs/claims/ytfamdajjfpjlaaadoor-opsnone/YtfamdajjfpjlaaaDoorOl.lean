/-
  The walk of the statement OpsNone.
-/
import Derived.Test.YtfamdajjfpjlaaaDoorOk
namespace Go.Proofs.YtfamdajjfpjlaaaDoor
open Go.RowKit
set_option linter.unusedVariables false
set_option maxRecDepth 100000
theorem univ_one : ∃ c, zoneR 1 (startR 1 (1 + 1) 0) = some c := by
  have h : (zoneR 1 (startR 1 (1 + 1) 0)).isSome = true := by kernel_rfl
  cases e : zoneR 1 (startR 1 (1 + 1) 0) with
  | none => rw [e] at h; cases h
  | some c => exact ⟨c, rfl⟩
set_option maxHeartbeats 4000000 in
theorem opsNone.walk (x : Int) (hx : (Lit.int .i64 x).wf = true) (k : Int) (hk : (Lit.int .i64 k).wf = true) (ad : Option Addr) (len cap : Nat) (w : World) (ht : Pow w) :
    Calls Tryd.prog 11 #[.int .i64 x, .int .i64 k, .slice ad len cap] w fun e w' => e = .returned (.bool true) ∧ Below w.heap.size w w' := by
  obtain ⟨cu, eu⟩ := univ_one
  have HP := hideD ht
  have HR := hideD (reset_err (.pointer none) x k 1 w rfl (settable_nil x k w))
  have HUs : Hid (∀ w, _) := fun w => unset_err (.pointer none) x k 1 w rfl (settable_nil x k w)
  have HUn : Hid (∀ w, Calls Tryd.prog 49 #[.int .i64 1] w fun e w' => Below w.heap.size w w' ∧ ZoneOut w' w.heap.size 1 e (some cu)) := fun w => by
    have := universe_any 1 w (by omega)
    rw [eu] at this
    exact this
  clear hx hk ht eu
  go_enter Tryd.func11, Tryd.ntmps11
  go_wp2_with fail
  refine (up_nil _).mono ?_
  rintro e w1 ⟨rfl, rfl⟩
  go_wp2_with fail
  refine (down_nil _).mono ?_
  rintro e w1 ⟨rfl, rfl⟩
  go_wp2_with fail
  refine HR.out.mono ?_
  rintro e w2 ⟨rfl, b2⟩
  have B2 := hideD b2
  clear b2 HR
  go_wp2_with fail
  refine (HUs.out _).mono ?_
  rintro e w3 ⟨rfl, b3⟩
  have B3 := hideD (beyondD B2.out b3)
  clear b3 HUs B2
  have B4 := hideD (B3.out.alloc B3.out.size (.cells #[.int .i64 x] 3))
  clear B3
  go_wp2_with fail
  refine (free_nil _ _).mono ?_
  rintro e w4 ⟨rfl, rfl⟩
  generalize w3.alloc (.cells #[.int .i64 x] 3) = w4 at *
  go_wp2_with fail
  refine (copy_nil _ _ _).mono ?_
  rintro e w5 ⟨rfl, rfl⟩
  go_wp2_with fail
  refine (con_nil _ _).mono ?_
  rintro e w5 ⟨rfl, rfl⟩
  go_wp2_with fail
  refine (guards_nil _ _).mono ?_
  rintro e w5 ⟨rfl, rfl⟩
  go_wp2_with fail
  refine (and_err _ _ 1 _ rfl (join_nil _ _)).mono ?_
  rintro e w5 ⟨rfl, rfl⟩
  go_wp2_with fail
  refine (hull_err _ _ 1 _ rfl (join_nil _ _)).mono ?_
  rintro e w5 ⟨rfl, rfl⟩
  have B5 := hideD (B4.out.alloc B4.out.size (.cells #[.int .i64 x] 3))
  clear B4
  go_wp2_with fail
  refine (keep_nil _ _).mono ?_
  rintro e w6 ⟨rfl, rfl⟩
  generalize w5.alloc (.cells #[.int .i64 x] 3) = w6 at *
  go_wp2_with fail
  refine (HUn.out _).mono ?_
  rintro e w7 ⟨b7, u, lu, rfl, hZ⟩
  have B7 := hideD (beyondD B5.out b7)
  have B8 := below_one w7 (.cells #[.pointer none] 23)
  have HA := hideD (and_err (.pointer (some ⟨u, 0, none⟩)) (.slice (some ⟨w7.heap.size, 0, none⟩) 1 1) 1 _ rfl (join_main u 1 w7.heap.size 0 1 1 [none] (w7.alloc (.cells #[.pointer none] 23)) (hZ.past B8).clocks rfl (by omega) (fun k hk => by
    obtain rfl : k = 0 := by simp at hk; omega
    exact ⟨by simp [go_sem, ptrV], fun b m h => by cases h⟩)))
  have BA := hideD (beyondD B7.out B8)
  have hZ8 := hideD (hZ.past B8)
  clear b7 B5 HUn hZ B7 B8
  go_wp2_with fail
  refine HA.out.mono ?_
  rintro e w8 ⟨rfl, rfl⟩
  generalize w7.alloc (.cells #[.pointer none] 23) = w8 at *
  clear HA
  have B9 := below_one w8 (.cells #[.pointer (some ⟨u, 0, none⟩), .pointer none] 23)
  have HH := hideD (hull_err (.pointer (some ⟨u, 0, none⟩)) (.slice (some ⟨w8.heap.size, 0, none⟩) 2 2) 1 _ rfl (join_main u 1 w8.heap.size 0 2 2 [some (u, 1), none] (w8.alloc (.cells #[.pointer (some ⟨u, 0, none⟩), .pointer none] 23)) (hZ8.out.past B9).clocks rfl (by omega) (fun k hk => by
    obtain rfl | rfl : k = 0 ∨ k = 1 := by simp at hk; omega
    · exact ⟨by simp [go_sem, ptrV], fun b m h => by simp at h; obtain ⟨rfl, rfl⟩ := h; exact (hZ8.out.past B9).clocks⟩
    · exact ⟨by simp [go_sem, ptrV], fun b m h => by simp at h⟩)))
  have BB := hideD (beyondD BA.out B9)
  clear BA B9 hZ8
  go_wp2_with fail
  refine HH.out.mono ?_
  rintro e w9 ⟨rfl, rfl⟩
  generalize w8.alloc (.cells #[.pointer (some ⟨u, 0, none⟩), .pointer none] 23) = w9 at *
  clear HH
  have HC : Hid (∀ K, K < 13 → (w9.alloc (.cells #[.int .i64 1, .int .i64 1, .int .i64 1, .int .i64 1, .int .i64 1, .int .i64 1, .int .i64 1, .int .i64 1, .int .i64 1, .int .i64 1, .int .i64 1, .int .i64 1, .int .i64 1] 27)).cell? ⟨w9.heap.size, K, none⟩ = some (.int .i64 1)) := fun K hK => by
    rw [World.cell?_alloc_at _ _ _ _ rfl]
    rw [show (#[.int .i64 1, .int .i64 1, .int .i64 1, .int .i64 1, .int .i64 1, .int .i64 1, .int .i64 1, .int .i64 1, .int .i64 1, .int .i64 1, .int .i64 1, .int .i64 1, .int .i64 1] : Array Value) = Array.replicate 13 (.int .i64 1) from rfl, Array.getElem?_replicate, if_pos hK]
  have BC := hideD (BB.out.alloc BB.out.size (.cells #[.int .i64 1, .int .i64 1, .int .i64 1, .int .i64 1, .int .i64 1, .int .i64 1, .int .i64 1, .int .i64 1, .int .i64 1, .int .i64 1, .int .i64 1, .int .i64 1, .int .i64 1] 27))
  clear BB
  go_wp2_with fail
  generalize w9.alloc (.cells #[.int .i64 1, .int .i64 1, .int .i64 1, .int .i64 1, .int .i64 1, .int .i64 1, .int .i64 1, .int .i64 1, .int .i64 1, .int .i64 1, .int .i64 1, .int .i64 1, .int .i64 1] 27) = wa at *
  generalize w9.heap.size = ba at *
  go_loopw [36] (fun s wr => ∃ (K : Nat), K ≤ 13 ∧ s = .int .i64 (K : Int) ∧ wr = wa) (fun s _ => 13 - (intOf s).toNat)
  case atStart => exact ⟨0, by omega, rfl, rfl⟩
  case round =>
    obtain ⟨K, hK, rfl, rfl⟩ := hrel
    by_cases ck : K < 13
    · have k0 : (0 : Int) ≤ (K : Int) := by omega
      have k1 : (K : Int) < 13 := by omega
      have c0 := HC.out K ck
      go_wp2_with fail
      go_roundw
      case rel => exact ⟨K + 1, by omega, by go_num, by trivial⟩
      case measure => simp [intOf]; omega
    · have eK : K = 13 := by omega
      subst eK
      have HL := hideD (olive_any wr (pow_later HP.out BC.out))
      go_wp2_with fail
      refine HL.out.mono ?_
      rintro e wz ⟨rfl, hbz⟩
      go_wp2_with fail
      go_ret
      exact ⟨rfl, beyondD BC.out hbz⟩
end Go.Proofs.YtfamdajjfpjlaaaDoor
