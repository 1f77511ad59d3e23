/-
  lex.mate, lex.isPair.
-/
import Derived.Test.YtdofnjlnleofjaaDoorLe
namespace Go.Proofs.YtdofnjlnleofjaaDoor
open Go.RowKit
set_option linter.unusedVariables false
def mateI (x : Int) : Int := if x == 46 then x else if x == 38 then x else if x == 124 then x else if x == 45 then 62 else 61
theorem retI {k : IntKind} {a b : Int} (h : a = b) : Ending.returned (.int k a) = .returned (.int k b) := by rw [h]
theorem mate_any (x : Int) (w : World) : Calls Tryd.prog 22 #[.int .u8 x] w fun e w' => e = .returned (.int .u8 (mateI x)) ∧ w' = w := by
  have H : Hid (mateI x = if x == 46 then x else if x == 38 then x else if x == 124 then x else if x == 45 then 62 else 61) := rfl
  by_cases a : (x == 46) = true
  · go_enter Tryd.func22, Tryd.ntmps22
    go_wp2
    go_ret
    exact ⟨retI (by rw [H.out, if_pos a]), rfl⟩
  by_cases b : (x == 38) = true
  · have a' : (x == 46) = false := by simpa using a
    go_enter Tryd.func22, Tryd.ntmps22
    go_wp2
    go_ret
    exact ⟨retI (by rw [H.out, if_neg a, if_pos b]), rfl⟩
  by_cases c : (x == 124) = true
  · have a' : (x == 46) = false := by simpa using a
    have b' : (x == 38) = false := by simpa using b
    go_enter Tryd.func22, Tryd.ntmps22
    go_wp2
    go_ret
    exact ⟨retI (by rw [H.out, if_neg a, if_neg b, if_pos c]), rfl⟩
  have a' : (x == 46) = false := by simpa using a
  have b' : (x == 38) = false := by simpa using b
  have c' : (x == 124) = false := by simpa using c
  by_cases d : (x == 45) = true
  · go_enter Tryd.func22, Tryd.ntmps22
    go_wp2
    go_ret
    exact ⟨retI (by rw [H.out, if_neg a, if_neg b, if_neg c, if_pos d]), rfl⟩
  · have d' : (x == 45) = false := by simpa using d
    go_enter Tryd.func22, Tryd.ntmps22
    go_wp2
    go_ret
    exact ⟨retI (by rw [H.out, if_neg a, if_neg b, if_neg c, if_neg d]), rfl⟩
def pairL : List UInt8 → Bool
  | a :: b :: _ => (b.toNat : Int) == mateI a.toNat
  | _ => false
theorem pair_two (s : ByteArray) (h : 1 < s.size) : pairL s.data.toList = ((s[1].toNat : Int) == mateI (s[0].toNat : Int)) := by
  have h0 : s.data.toList = s[0] :: s[1] :: s.data.toList.drop 2 := by
    have a := drop_next s 0 (by omega)
    have b := drop_next s 1 h
    rw [List.drop_zero] at a
    exact a.trans (congrArg _ b)
  rw [h0]
  rfl
theorem pair_short (s : ByteArray) (h : ¬ 1 < s.size) : pairL s.data.toList = false := by
  have := len_of s
  cases e : s.data.toList with
  | nil => rfl
  | cons a l =>
    cases l with
    | nil => rfl
    | cons b l => rw [e] at this; simp at this; omega
theorem isPair_any (s : ByteArray) (w : World) (hs : s.size ≤ 140737488355328) : Calls Tryd.prog 20 #[.string s] w fun e w' => e = .returned (.bool (pairL s.data.toList)) ∧ Below w.heap.size w w' := by
  by_cases h : 1 < s.size
  · rw [pair_two s h]
    have h0 : 0 < s.size := by omega
    have i0 : (0 : Int) < (s.size : Int) := by omega
    have i1 : (1 : Int) < (s.size : Int) := by omega
    have H := hideR (fun w => mate_any (s[0].toNat : Int) w)
    go_enter Tryd.func20, Tryd.ntmps20
    go_wp2_with fail
    go_quiet ((go_at_call 22; exact Calls.quiet_of_same (H.out _)))
    go_wp2_with fail
    go_ret
    exact ⟨rfl, by first | exact Below.refl _ _ | exact below_drewN (Below.refl _ _) _⟩
  · rw [pair_short s h]
    have i1 : ¬ (1 : Int) < (s.size : Int) := by omega
    have i2 : decide ((1 : Int) < (s.size : Int)) = false := by simpa using i1
    go_enter Tryd.func20, Tryd.ntmps20
    go_wp2_with fail
    go_quiet (fail)
    go_wp2_with fail
    go_ret
    exact ⟨rfl, by first | exact Below.refl _ _ | exact below_drewN (Below.refl _ _) _⟩
end Go.Proofs.YtdofnjlnleofjaaDoor
