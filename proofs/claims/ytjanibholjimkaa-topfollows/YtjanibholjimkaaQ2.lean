/-
  The contract of closeBy and close.
-/
import Derived.Test.YtjanibholjimkaaQ1
namespace Go.Proofs.Ytjanibholjimkaa
open Go.RowKit
set_option linter.unusedVariables false
def cbStep (k i j : Nat) (r : Mat) : Option Mat :=
  if r i j ≤ dplus (r i k) (r k j) then some r else if i = j then none else some (upd r i j (dplus (r i k) (r k j)))
def cbRow (k i : Nat) : Nat → Mat → Option Mat
  | 0, r => some r
  | c + 1, r => (cbRow k i c r).bind (cbStep k i c)
def cbAll (k n : Nat) : Nat → Mat → Option Mat
  | 0, r => some r
  | c + 1, r => (cbAll k n c r).bind (cbRow k c (n + 1))
theorem cbRow_none {k i : Nat} {r : Mat} : ∀ {c : Nat} (d : Nat), c ≤ d → cbRow k i c r = none → cbRow k i d r = none := by
  intro c d h e
  induction d with
  | zero => obtain rfl : c = 0 := by omega
            exact e
  | succ d ih =>
    by_cases q : c = d + 1
    · subst q; exact e
    · simp [cbRow, ih (by omega)]
theorem cbAll_none {k n : Nat} {r : Mat} : ∀ {c : Nat} (d : Nat), c ≤ d → cbAll k n c r = none → cbAll k n d r = none := by
  intro c d h e
  induction d with
  | zero => obtain rfl : c = 0 := by omega
            exact e
  | succ d ih =>
    by_cases q : c = d + 1
    · subst q; exact e
    · simp [cbAll, ih (by omega)]
set_option maxHeartbeats 1000000 in
theorem closeBy_any (b n k : Nat) (r : Mat) (w : World) (h : n ≤ 8) (hk : k ≤ n) (hD : Draft w b n r) :
    Calls Try.prog 56 #[.pointer (some ⟨b, 0, none⟩), .int .i64 k] w fun e w' => e = .returned (.bool (cbAll k n (n + 1) r).isSome) ∧ Below b w w' ∧ (∃ s, Draft w' b n s ∧ ∀ s', cbAll k n (n + 1) r = some s' → s' = s) := by
  have HD := hideD hD
  clear hD
  go_enter Try.func56, Try.ntmps56
  go_wp2_with fail
  go_loopw [5] (fun s wr => ∃ (I : Nat) (q : Mat), I ≤ n + 1 ∧ s = .int .i64 I ∧ Hid (cbAll k n I r = some q) ∧ Hid (Draft wr b n q) ∧ Hid (Below b w wr)) (fun s _ => n + 1 - (intOf s).toNat)
  case atStart => exact ⟨0, r, by omega, rfl, rfl, HD, Below.refl _ _⟩
  case round =>
    obtain ⟨I, q, hI, rfl, hq, hD, hB⟩ := hrel
    have hcl := hD.out.clocks
    by_cases c : I ≤ n
    · go_wp2_with fail
      clear hcl
      go_loopw [6] (fun s wr => ∃ (J : Nat) (p : Mat), J ≤ n + 1 ∧ s = .int .i64 J ∧ Hid (cbRow k I J q = some p) ∧ Hid (Draft wr b n p) ∧ Hid (Below b w wr)) (fun s _ => n + 1 - (intOf s).toNat)
      case atStart => exact ⟨0, q, by omega, rfl, rfl, hD, hB⟩
      case round =>
        obtain ⟨J, p, hJ, rfl, hp, hD, hB⟩ := hrel
        have hcl := hD.out.clocks
        by_cases cj : J ≤ n
        · have h1 := hD.out.cell I k (by omega) (by omega)
          have h2 := hD.out.cell k J (by omega) (by omega)
          have h3 := hD.out.cell I J (by omega) (by omega)
          have h4 := hD.out.free I J (by omega) (by omega)
          have st : Hid (cbRow k I (J + 1) q = cbStep k I J p) := by show cbRow k I (J + 1) q = _; simp [cbRow, hp.out]
          generalize e1 : p I k = x at *
          generalize e2 : p k J = y at *
          generalize e3 : p I J = z at *
          have st2 : Hid (cbStep k I J p = if z ≤ dplus x y then some p else if I = J then none else some (upd p I J (dplus x y))) := by show cbStep k I J p = _; simp [cbStep, e1, e2, e3]
          have HP : Hid (∀ w, Calls Try.prog 67 #[.int .i64 x, .int .i64 y] w fun e w' => e = .returned (.int .i64 (dplus x y)) ∧ w' = w) := fun w => dplus_any x y w
          generalize dplus x y = s at *
          clear e1 e2 e3
          by_cases cz : z ≤ s
          · have st3 : Hid (cbRow k I (J + 1) q = some p) := by show cbRow k I (J + 1) q = _; rw [st.out, st2.out, if_pos cz]
            clear st st2
            go_wp2_with fail
            go_quiet ((go_at_call 67; exact Calls.quiet_of_same (HP.out _)))
            go_wp2_with fail
            go_roundw
            case rel => exact ⟨J + 1, p, by omega, by go_num, st3, hD.out.drewN _, below_drewN hB.out _⟩
            case measure => simp [intOf]; omega
          · by_cases ce : I = J
            · have st3 : Hid (cbAll k n (n + 1) r = none) := by
                show cbAll k n (n + 1) r = none
                refine cbAll_none (c := I + 1) (n + 1) (by omega) ?_
                simp [cbAll, hq.out]
                refine cbRow_none (c := J + 1) (n + 1) (by omega) ?_
                rw [st.out, st2.out, if_neg cz, if_pos ce]
              clear st st2
              subst ce
              go_wp2_with fail
              go_quiet ((go_at_call 67; exact Calls.quiet_of_same (HP.out _)))
              go_wp2_with fail
              go_ret
              refine ⟨?_, below_drewN hB.out _, p, hD.out.drewN _, fun s' e => ?_⟩
              · simp [st3.out]
              · rw [st3.out] at e; simp at e
            · have st3 : Hid (cbRow k I (J + 1) q = some (upd p I J s)) := by show cbRow k I (J + 1) q = _; rw [st.out, st2.out, if_neg cz, if_neg ce]
              clear st st2
              have t1 : ((I : Int) == (J : Int)) = false := by simp; omega
              go_wp2_with fail
              go_quiet ((go_at_call 67; exact Calls.quiet_of_same (HP.out _)))
              go_wp2_with fail
              go_roundw
              case rel => exact ⟨J + 1, upd p I J s, by omega, by go_num, st3, (hD.out.drewN _).set (by omega) (by omega) _, (below_drewN hB.out _).setCell (Nat.le_refl _) _⟩
              case measure => simp [intOf]; omega
        · have ej : J = n + 1 := by omega
          subst ej
          have st : Hid (cbAll k n (I + 1) r = some p) := by show cbAll k n (I + 1) r = _; simp [cbAll, hq.out, hp.out]
          go_wp2_with fail
          go_roundw
          case rel => exact ⟨I + 1, p, by omega, by go_num, st, hD, hB⟩
          case measure => simp [intOf]; omega
    · have eI : I = n + 1 := by omega
      subst eI
      go_wp2_with fail
      go_ret
      refine ⟨?_, hB.out, q, hD.out, fun s' e => ?_⟩
      · simp [hq.out]
      · rw [hq.out] at e; injection e with e; exact e.symm

/-! ### close -/
def diagOk (n : Nat) (r : Mat) : Nat → Bool
  | 0 => true
  | c + 1 => diagOk n r c && decide (1 ≤ r c c)
def clAll (n : Nat) : Nat → Mat → Option Mat
  | 0, r => some r
  | c + 1, r => (clAll n c r).bind (cbAll c n (n + 1))
def closeR (n : Nat) (r : Mat) : Option Mat := if diagOk n r (n + 1) then clAll n (n + 1) r else none
theorem clAll_none {n : Nat} {r : Mat} : ∀ {c : Nat} (d : Nat), c ≤ d → clAll n c r = none → clAll n d r = none := by
  intro c d h e
  induction d with
  | zero => obtain rfl : c = 0 := by omega
            exact e
  | succ d ih =>
    by_cases q : c = d + 1
    · subst q; exact e
    · simp [clAll, ih (by omega)]
theorem diagOk_false {n : Nat} {r : Mat} : ∀ {c : Nat} (d : Nat), c ≤ d → diagOk n r c = false → diagOk n r d = false := by
  intro c d h e
  induction d with
  | zero => obtain rfl : c = 0 := by omega
            exact e
  | succ d ih =>
    by_cases q : c = d + 1
    · subst q; exact e
    · simp [diagOk, ih (by omega)]
set_option maxHeartbeats 1000000 in
theorem close_any (b n : Nat) (r : Mat) (w : World) (h : n ≤ 8) (hD : Draft w b n r) :
    Calls Try.prog 38 #[.pointer (some ⟨b, 0, none⟩)] w fun e w' => e = .returned (.bool (closeR n r).isSome) ∧ Below b w w' ∧ (∃ s, Draft w' b n s ∧ ∀ s', closeR n r = some s' → s' = s) := by
  have HD := hideD hD
  clear hD
  go_enter Try.func38, Try.ntmps38
  go_wp2_with fail
  go_loopw [3] (fun s wr => ∃ (I : Nat), I ≤ n + 1 ∧ s = .int .i64 I ∧ Hid (diagOk n r I = true) ∧ Hid (Draft wr b n r) ∧ Hid (Below b w wr)) (fun s _ => n + 1 - (intOf s).toNat)
  case atStart => exact ⟨0, by omega, rfl, rfl, HD, Below.refl _ _⟩
  case round =>
    obtain ⟨I, hI, rfl, hq, hD, hB⟩ := hrel
    have hcl := hD.out.clocks
    by_cases c : I ≤ n
    · have h1 := hD.out.cell I I (by omega) (by omega)
      have st : Hid (diagOk n r (I + 1) = decide (1 ≤ r I I)) := by show diagOk n r (I + 1) = _; simp [diagOk, hq.out]
      generalize r I I = x at *
      by_cases cx : x < 1
      · have st3 : Hid (closeR n r = none) := by
          show closeR n r = none
          have e : diagOk n r (n + 1) = false := by
            refine diagOk_false (c := I + 1) (n + 1) (by omega) ?_
            rw [st.out, decide_eq_false (by omega)]
          simp [closeR, e]
        clear st
        go_wp2_with fail
        go_ret
        refine ⟨?_, hB.out, r, hD.out, fun s' e => ?_⟩
        · simp [st3.out]
        · rw [st3.out] at e; simp at e
      · have st3 : Hid (diagOk n r (I + 1) = true) := by show diagOk n r (I + 1) = true; rw [st.out, decide_eq_true (by omega)]
        clear st
        go_wp2_with fail
        go_roundw
        case rel => exact ⟨I + 1, by omega, by go_num, st3, hD, hB⟩
        case measure => simp [intOf]; omega
    · have st : Hid (closeR n r = clAll n (n + 1) r) := by
        obtain rfl : I = n + 1 := by omega
        show closeR n r = _
        simp [closeR, hq.out]
      clear hq
      go_wp2_with fail
      clear hcl
      go_loopw [4] (fun s wr => ∃ (K : Nat) (q : Mat), K ≤ n + 1 ∧ s = .int .i64 K ∧ Hid (clAll n K r = some q) ∧ Hid (Draft wr b n q) ∧ Hid (Below b w wr)) (fun s _ => n + 1 - (intOf s).toNat)
      case atStart => exact ⟨0, r, by omega, rfl, rfl, hD, hB⟩
      case round =>
        obtain ⟨K, q, hK, rfl, hq, hD, hB⟩ := hrel
        have hcl := hD.out.clocks
        by_cases c : K ≤ n
        · have H := hideD (closeBy_any b n K q wr h c hD.out)
          have st2 : Hid (clAll n (K + 1) r = cbAll K n (n + 1) q) := by show clAll n (K + 1) r = _; simp [clAll, hq.out]
          cases e : cbAll K n (n + 1) q with
          | none =>
            rw [e] at H
            have st3 : Hid (closeR n r = none) := by
              show closeR n r = none
              rw [st.out]
              exact clAll_none (c := K + 1) (n + 1) (by omega) (st2.out.trans e)
            clear st st2
            go_wp2_with fail
            refine H.out.mono ?_
            rintro e' w1 ⟨rfl, hb, s, hs, -⟩
            go_wp2_with fail
            go_ret
            refine ⟨?_, hB.out.trans hb, s, hs, fun s' e => ?_⟩
            · simp [st3.out]
            · rw [st3.out] at e; simp at e
          | some p =>
            rw [e] at H
            have st3 : Hid (clAll n (K + 1) r = some p) := st2.out.trans e
            clear st2
            go_wp2_with fail
            refine H.out.mono ?_
            rintro e' w1 ⟨rfl, hb, s, hs, hp⟩
            obtain rfl := hp p rfl
            have hs' := hideD hs
            have hb' := hideD (hB.out.trans hb)
            clear hs hb hp
            go_wp2_with fail
            go_roundw
            case rel => exact ⟨K + 1, p, by omega, by go_num, st3, hs', hb'⟩
            case measure => simp [intOf]; omega
        · have eK : K = n + 1 := by omega
          subst eK
          have st3 : Hid (closeR n r = some q) := st.out.trans hq.out
          clear st hq
          go_wp2_with fail
          go_ret
          refine ⟨?_, hB.out, q, hD.out, fun s' e => ?_⟩
          · simp [st3.out]
          · rw [st3.out] at e; injection e with e; exact e.symm
end Go.Proofs.Ytjanibholjimkaa
