/-
  The document's nils: the error of zones that are to be joined.
-/
import Derived.Test.YtfffcmelkdmjaaaDoorWxz
namespace Go.Proofs.YtfffcmelkdmjaaaDoor
open Go.RowKit
set_option linter.unusedVariables false
set_option maxRecDepth 100000
theorem rdim_raw (b : Nat) (n : Int) (w : World) (h : w.cell? ⟨b, 0, none⟩ = some (.int .i64 n)) :
    Calls Tryd.prog 82 #[.pointer (some ⟨b, 0, none⟩)] w fun e w' => e = .returned (.int .i64 n) ∧ w' = w := by
  go_enter Tryd.func82, Tryd.ntmps82
  go_wp2_with fail
  go_ret
  exact ⟨rfl, rfl⟩
theorem rnils_nil (v : Value) (w : World) : Calls Tryd.prog 100 #[.pointer none, v] w fun e w' => e = .returned (.int .i64 1) ∧ w' = w := by
  go_enter Tryd.func100, Tryd.ntmps100
  go_wp2_with fail
  go_ret
  exact ⟨rfl, rfl⟩
theorem jn_eleven {n : Nat} {l : List ZP} : ∀ {k : Nat} (m : Nat), k ≤ m → nn l m = true → jn n l k = 11 → jn n l m = 11 := by
  intro k m h hn e
  induction m with
  | zero => obtain rfl : k = 0 := by omega
            exact e
  | succ m ih =>
    by_cases q : k = m + 1
    · subst q; exact e
    · simp only [nn, Bool.and_eq_true] at hn
      have := ih (by omega) hn.1
      unfold jn
      cases l.getD m none with
      | none => exact this
      | some x =>
        obtain ⟨_, y⟩ := x
        show (if y = n then jn n l m else 11) = 11
        split
        · exact this
        · rfl
theorem nn_at {l : List ZP} {m : Nat} (h : nn l m = true) (k : Nat) (hk : k < m) : (l.getD k none).isSome = true := by
  induction m with
  | zero => omega
  | succ m ih =>
    simp only [nn, Bool.and_eq_true] at h
    by_cases q : k = m
    · subst q; exact h.2
    · exact ih h.1 (by omega)
set_option maxHeartbeats 2000000 in
theorem rnils_main (b n g off cap q : Nat) (l : List ZP) (w : World) (h0 : w.cell? ⟨b, 0, none⟩ = some (.int .i64 (n : Int))) (hl : l.length = q) (hq : q ≤ 9223372036854775807) (hp : ZPs w g off l) :
    Calls Tryd.prog 100 #[.pointer (some ⟨b, 0, none⟩), .slice (some ⟨g, off, none⟩) q cap] w fun e w' => e = .returned (.int .i64 (joinE n l)) ∧ w' = w := by
  have HD0 := hideD (rdim_raw b n w h0)
  have HP := hideD hp
  have HJ1 : Hid (nn l q = false → joinE n l = 1) := fun e => by simp [joinE, hl, e]
  have HJ2 : Hid (nn l q = true → joinE n l = jn n l q) := fun e => by simp [joinE, hl, e]
  have q1 : (q : Int) ≤ 9223372036854775807 := by omega
  clear hp h0
  go_enter Tryd.func100, Tryd.ntmps100
  go_wp2_with fail
  go_loopw [5] (fun s wr => ∃ (K : Nat), K ≤ q ∧ s = .int .i64 (K : Int) ∧ Hid (nn l K = true) ∧ wr = w) (fun s _ => q - (intOf s).toNat)
  case atStart => exact ⟨0, by omega, rfl, rfl, rfl⟩
  case round =>
    obtain ⟨K, hK, rfl, hN, rfl⟩ := hrel
    by_cases ck : K < q
    · have k0 : (0 : Int) ≤ (K : Int) := by omega
      have k1 : (K : Int) < (q : Int) := by omega
      obtain ⟨c0, c1⟩ := HP.out K (by omega)
      have st : Hid (nn l (K + 1) = (l.getD K none).isSome) := by show _ = _; simp [nn, hN.out]
      clear c1
      generalize l.getD K none = x at *
      cases x with
      | none =>
        have st3 : Hid (nn l q = false) := nn_false (k := K + 1) q (by omega) st.out
        have fin := hideD (HJ1.out st3.out)
        clear st
        simp only [ptrV] at c0
        go_wp2_with fail
        go_ret
        exact ⟨by rw [fin.out]; rfl, rfl⟩
      | some x =>
        obtain ⟨zb, zm⟩ := x
        simp only [ptrV] at c0
        go_wp2_with fail
        go_roundw
        case rel => exact ⟨K + 1, by omega, by go_num, st, by trivial⟩
        case measure => simp [intOf]; omega
    · have eK : K = q := by omega
      have hN' : Hid (nn l q = true) := by rw [← eK]; exact hN
      have k1 : ¬ ((K : Int) < (q : Int)) := by omega
      clear hN eK
      go_wp2_with fail
      go_loopw [6] (fun s w' => ∃ (J : Nat), J ≤ q ∧ s = .int .i64 (J : Int) ∧ Hid (jn n l J = 0) ∧ w' = wr) (fun s _ => q - (intOf s).toNat)
      case atStart => exact ⟨0, by omega, rfl, rfl, rfl⟩
      case round =>
        obtain ⟨J, hJ, rfl, hj, rfl⟩ := hrel
        by_cases cj : J < q
        · have k0 : (0 : Int) ≤ (J : Int) := by omega
          have k1 : (J : Int) < (q : Int) := by omega
          obtain ⟨c0, c1⟩ := HP.out J (by omega)
          have sm := nn_at hN'.out J cj
          have st2 : Hid (jn n l (J + 1) = match l.getD J none with | some (_, m) => if m = n then jn n l J else 11 | none => jn n l J) := rfl
          generalize l.getD J none = x at *
          cases x with
          | none => cases sm
          | some x =>
            obtain ⟨zb, zm⟩ := x
            have c1 := c1 zb zm rfl
            have HD1 := hideD (rdim_raw zb zm _ c1)
            simp only [ptrV] at c0
            by_cases e : zm = n
            · have t1 : ((zm : Int) != (n : Int)) = false := by simp [e]
              have st3 : Hid (jn n l (J + 1) = 0) := by show _ = _; rw [st2.out]; simp [e, hj.out]
              go_wp2_with fail
              refine HD1.out.mono ?_
              rintro e' w2 ⟨rfl, rfl⟩
              go_wp2_with fail
              refine HD0.out.mono ?_
              rintro e' w2 ⟨rfl, rfl⟩
              go_wp2_with fail
              go_roundw
              case rel => exact ⟨J + 1, by omega, by go_num, st3, by trivial⟩
              case measure => simp [intOf]; omega
            · have t1 : ((zm : Int) != (n : Int)) = true := by simp; omega
              have st3 : Hid (jn n l (J + 1) = 11) := by show _ = _; rw [st2.out]; simp [e]
              have fin : Hid (joinE n l = 11) := by show _ = _; rw [HJ2.out hN'.out]; exact jn_eleven (k := J + 1) q (by omega) hN'.out st3.out
              go_wp2_with fail
              refine HD1.out.mono ?_
              rintro e' w2 ⟨rfl, rfl⟩
              go_wp2_with fail
              refine HD0.out.mono ?_
              rintro e' w2 ⟨rfl, rfl⟩
              go_wp2_with fail
              go_ret
              exact ⟨by rw [fin.out]; rfl, rfl⟩
        · have eJ : J = q := by omega
          have k1 : ¬ ((J : Int) < (q : Int)) := by omega
          have fin : Hid (joinE n l = 0) := by show _ = _; rw [HJ2.out hN'.out, ← eJ]; exact hj.out
          clear eJ
          go_wp2_with fail
          go_ret
          exact ⟨by rw [fin.out]; rfl, rfl⟩
end Go.Proofs.YtfffcmelkdmjaaaDoor
