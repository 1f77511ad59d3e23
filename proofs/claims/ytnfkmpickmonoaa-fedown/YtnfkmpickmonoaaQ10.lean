/-
  What must be whatever is asked (live of the statements of dbm).
-/
import Derived.Test.YtnfkmpickmonoaaQ8
import Derived.Laws.BitsLemmas
namespace Go.Proofs.Ytnfkmpickmonoaa
open Go.RowKit
set_option linter.unusedVariables false
set_option maxRecDepth 100000
def scUpto (l m : List Int) : Nat → Bool
  | 0 => true
  | k + 1 => scUpto l m k && (l.getD k 0 == m.getD k 0)
theorem scUpto_false {l m : List Int} : ∀ {k : Nat} (n : Nat), k ≤ n → scUpto l m k = false → scUpto l m n = false := by
  intro k n h e
  induction n with
  | zero => obtain rfl : k = 0 := by omega
            exact e
  | succ n ih =>
    by_cases q : k = n + 1
    · subst q; exact e
    · simp [scUpto, ih (by omega)]
set_option maxHeartbeats 1000000 in
theorem sameCells_same (g1 g2 c1 c2 n : Nat) (l m : List Int) (w : World) (h1 : RowAt w g1 0 l) (h2 : RowAt w g2 0 m) (hl : l.length = n) (hm : m.length = n) (hn : n ≤ 81) :
    Calls Try.prog 50 #[.slice (some ⟨g1, 0, none⟩) n c1, .slice (some ⟨g2, 0, none⟩) n c2] w fun e w' => e = .returned (.bool (scUpto l m n)) ∧ ∃ k, w' = w.drewN k := by
  have H1 : Hid (∀ j, j < n → w.cell? ⟨g1, j, none⟩ = some (.int .i32 (l.getD j 0))) := fun j hj => by have := h1 j (by omega); simpa using this
  have H2 : Hid (∀ j, j < n → w.cell? ⟨g2, j, none⟩ = some (.int .i32 (m.getD j 0))) := fun j hj => by have := h2 j (by omega); simpa using this
  clear h1 h2 hl hm
  go_enter Try.func50, Try.ntmps50
  go_wp2_with fail
  go_loopw [5] (fun s wr => ∃ (I k : Nat), I ≤ n ∧ s = .int .i64 I ∧ Hid (scUpto l m I = true) ∧ wr = w.drewN k) (fun s _ => n - (intOf s).toNat)
  case atStart => exact ⟨0, 0, by omega, rfl, rfl, rfl⟩
  case round =>
    obtain ⟨I, k, hI, rfl, hq, rfl⟩ := hrel
    by_cases ci : I < n
    · have a1 := H1.out I ci
      have a2 := H2.out I ci
      have st : Hid (scUpto l m (I + 1) = (l.getD I 0 == m.getD I 0)) := by show scUpto l m (I + 1) = _; simp [scUpto, hq.out]
      have i0 : (0 : Int) ≤ (I : Int) := by omega
      have i1 : (I : Int) < (n : Int) := by omega
      generalize l.getD I 0 = x at *
      generalize m.getD I 0 = y at *
      cases cx : (x == y)
      · have st3 : Hid (scUpto l m n = false) := scUpto_false (k := I + 1) n (by omega) (st.out.trans cx)
        clear st hq
        have cy : (x != y) = true := by simp [bne, cx]
        go_wp2_with fail
        go_quiet (fail)
        go_wp2_with fail
        go_ret
        exact ⟨by rw [st3.out]; rfl, _, World.drewN_drewN _ _ _⟩
      · have st3 : Hid (scUpto l m (I + 1) = true) := st.out.trans cx
        clear st hq
        have cy : (x != y) = false := by simp [bne, cx]
        go_wp2_with fail
        go_quiet (fail)
        go_wp2_with fail
        go_roundw
        case rel => exact ⟨I + 1, _, by omega, by go_num, st3, rfl⟩
        case measure => simp [intOf]; omega
    · have st : Hid (scUpto l m n = true) := by
        obtain rfl : I = n := by omega
        exact hq.out
      clear hq
      go_wp2_with fail
      go_ret
      exact ⟨by rw [st.out]; rfl, _, rfl⟩
end Go.Proofs.Ytnfkmpickmonoaa

/-
  The document's answer for layer 3: the sum of two wide bounds, and the wide cells of a row.
-/
namespace Go.Proofs.Ytnfkmpickmonoaa
open Go.RowKit
set_option linter.unusedVariables false
set_option maxRecDepth 100000
theorem i64_and1 (n : Int) : bits .and .i64 n 1 = n % 2 := by
  have h1 : (BitVec.ofInt 64 1).toNat = 2 ^ 1 - 1 := by decide
  have key : (BitVec.ofInt 64 n &&& BitVec.ofInt 64 1).toNat = (n % ((2 ^ 64 : Nat) : Int)).toNat % 2 ^ 1 := by
    rw [BitVec.toNat_and, BitVec.toNat_ofInt, h1, Nat.and_two_pow_sub_one_eq_mod]
  show IntKind.i64.wrap ((BitVec.ofInt 64 n &&& BitVec.ofInt 64 1).toNat : Nat) = n % 2
  rw [key, IntKind.wrap_i64]
  omega
theorem i64_or_odd (a b : Int) : bits .or .i64 a b % 2 = if a % 2 = 1 ∨ b % 2 = 1 then 1 else 0 := by
  have key : (BitVec.ofInt 64 a ||| BitVec.ofInt 64 b).toNat % 2 = 1 ↔ (a % ((2 ^ 64 : Nat) : Int)).toNat % 2 = 1 ∨ (b % ((2 ^ 64 : Nat) : Int)).toNat % 2 = 1 := by
    rw [BitVec.toNat_or, BitVec.toNat_ofInt, BitVec.toNat_ofInt, Nat.or_mod_two_eq_one]
  show IntKind.i64.wrap ((BitVec.ofInt 64 a ||| BitVec.ofInt 64 b).toNat : Nat) % 2 = _
  rw [IntKind.wrap_i64]
  generalize (BitVec.ofInt 64 a ||| BitVec.ofInt 64 b).toNat = x at *
  split <;> omega
def rplus (a b : Int) : Int := if a = opn ∨ b = opn then opn else if ¬ a.tmod 2 = 0 ∨ ¬ b.tmod 2 = 0 then wrap64 (wrap64 (a + b) - 1) else wrap64 (a + b)
theorem wrap_wrap (x : Int) : wrap64 (wrap64 x - 0) = wrap64 x := by unfold wrap64; omega
theorem rplus_eq (a b : Int) : rplus a b = dplus a b := by
  unfold rplus dplus
  split
  · rfl
  · rw [i64_and1, i64_or_odd]
    have ha : (¬ a.tmod 2 = 0) ↔ a % 2 = 1 := by have := Int.emod_two_eq a; have := Int.mul_tdiv_add_tmod a 2; have := Int.lt_tmod_of_pos a (show (0 : Int) < 2 by decide); have := Int.tmod_lt_of_pos a (show (0 : Int) < 2 by decide); omega
    have hb : (¬ b.tmod 2 = 0) ↔ b % 2 = 1 := by have := Int.emod_two_eq b; have := Int.mul_tdiv_add_tmod b 2; have := Int.lt_tmod_of_pos b (show (0 : Int) < 2 by decide); have := Int.tmod_lt_of_pos b (show (0 : Int) < 2 by decide); omega
    simp only [ha, hb]
    split
    · rfl
    · exact (wrap_wrap _).symm
theorem rplus_any (a b : Int) (w : World) :
    Calls Try.prog 93 #[.int .i64 a, .int .i64 b] w fun e w' => e = .returned (.int .i64 (dplus a b)) ∧ w' = w := by
  rw [← rplus_eq]
  by_cases h : a = opn
  · have e : rplus a b = opn := by simp [rplus, h]
    rw [e]
    clear e
    unfold opn at *
    go_enter Try.func93, Try.ntmps93
    go_wp2
    all_goals go_ret
    all_goals first | exact ⟨rfl, rfl⟩ | (exfalso; omega) | (exfalso; simp_all; done) | (rename_i hh; exfalso; simp at hh; omega)
  · by_cases h1 : b = opn
    · have e : rplus a b = opn := by simp [rplus, h1]
      rw [e]
      clear e
      unfold opn at *
      go_enter Try.func93, Try.ntmps93
      go_wp2
      all_goals go_ret
      all_goals first | exact ⟨rfl, rfl⟩ | (exfalso; omega) | (exfalso; simp_all; done) | (rename_i hh; exfalso; simp at hh; omega)
    · have e : rplus a b = if ¬ a.tmod 2 = 0 ∨ ¬ b.tmod 2 = 0 then wrap64 (wrap64 (a + b) - 1) else wrap64 (a + b) := by simp [rplus, h, h1]
      rw [e]
      clear e
      unfold opn at *
      have t1 : (a == 4611686018427387904) = false := by simpa using h
      have t2 : (b == 4611686018427387904) = false := by simpa using h1
      clear h h1
      by_cases ca : a.tmod 2 = 0
      · by_cases cb : b.tmod 2 = 0
        · rw [if_neg (by omega)]
          go_enter Try.func93, Try.ntmps93
          go_wp2
          all_goals go_ret
          all_goals first | exact ⟨rfl, rfl⟩ | (exfalso; simp_all; done)
        · rw [if_pos (by omega)]
          have cb' : (b.tmod 2 != 0) = true := by simpa using cb
          go_enter Try.func93, Try.ntmps93
          go_wp2
          all_goals go_ret
          all_goals first | exact ⟨rfl, rfl⟩ | (exfalso; simp_all; done)
      · rw [if_pos (by omega)]
        have ca' : (a.tmod 2 != 0) = true := by simpa using ca
        go_enter Try.func93, Try.ntmps93
        go_wp2
        all_goals go_ret
        all_goals first | exact ⟨rfl, rfl⟩ | (exfalso; simp_all; done)
end Go.Proofs.Ytnfkmpickmonoaa
