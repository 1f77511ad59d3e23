/-
  The document's Print of every fraction.
-/
import Derived.Test.YtmpdicjjaoeblaaDoorZb
import Derived.Test.YtmpdicjjaoeblaaDoorXe
namespace Go.Proofs.YtmpdicjjaoeblaaDoor
open Go.RowKit Go.Shelf
set_option linter.unusedVariables false
abbrev AskY (n d : Int) (r : Bool) : Prop := ∀ w, Calls Tryd.prog 20 #[rv n d] w fun e w' => e = .returned (.bool r) ∧ Below w.heap.size w w'
theorem askY (n d : Int) (hn : I64 n) (hd : I64 d) : AskY n d (rightR n d) := fun w => xright_any n d w hn hd
theorem yprint_wrong (n d : Int) (w : World) (HR : Hid (AskY n d false)) :
    Calls Tryd.prog 10 #[rv n d] w fun e w' => e = .returned (.string ⟨#[]⟩) ∧ Below w.heap.size w w' := by
  go_enter Tryd.func10, Tryd.ntmps10
  go_wp2_with fail
  refine (HR.out _).mono ?_
  rintro e w1 ⟨rfl, hb⟩
  have hB1 := beyond (single w _) hb
  clear hb
  go_wp2_with fail
  go_ret
  exact ⟨rfl, hB1⟩
theorem yprint_one (n : Int) (a : List UInt8) (w : World) (ht : Pow w) (HR : Hid (AskY n 1 true))
    (HA : Hid (∀ w, Pow w → Calls Tryd.prog 15 #[.int .i64 n, .int .i64 10] w fun e w' => e = .returned (.string ⟨a.toArray⟩) ∧ Below w.heap.size w w')) :
    Calls Tryd.prog 10 #[rv n 1] w fun e w' => e = .returned (.string ⟨a.toArray⟩) ∧ Below w.heap.size w w' := by
  go_enter Tryd.func10, Tryd.ntmps10
  go_wp2_with fail
  refine (HR.out _).mono ?_
  rintro e w1 ⟨rfl, hb⟩
  have s0 := kc ⟨w.heap.size, 0, none⟩ (.int .i64 n) hb (by first | assumption | simp [go_sem, *])
  have s1 := kc ⟨w.heap.size, 1, none⟩ (.int .i64 1) hb (by first | assumption | simp [go_sem, *])
  have hB1 := beyond (single w _) hb
  clear hb
  go_wp2_with fail
  refine (HA.out _ (pow_later ht hB1)).mono ?_
  rintro e w2 ⟨rfl, hb⟩
  have u0 := kc _ _ hb s0
  have u1 := kc _ _ hb s1
  have hB2 := beyond hB1 hb
  clear hb s0 s1
  go_wp2_with fail
  go_ret
  exact ⟨rfl, hB2⟩
theorem yprint_raw21 (n d : Int) (a b : List UInt8) (w : World) (hd : ¬ d = 1) (la : a.length ≤ 21) (lb : b.length ≤ 21) (ht : Pow w) (HR : Hid (AskY n d true))
    (HA : Hid (∀ w, Pow w → Calls Tryd.prog 15 #[.int .i64 n, .int .i64 10] w fun e w' => e = .returned (.string ⟨a.toArray⟩) ∧ Below w.heap.size w w'))
    (HB : Hid (∀ w, Pow w → Calls Tryd.prog 15 #[.int .i64 d, .int .i64 10] w fun e w' => e = .returned (.string ⟨b.toArray⟩) ∧ Below w.heap.size w w')) :
    Calls Tryd.prog 10 #[rv n d] w fun e w' => e = .returned (.string ⟨(a ++ [47] ++ b).toArray⟩) ∧ Below w.heap.size w w' := by
  go_enter Tryd.func10, Tryd.ntmps10
  go_wp2_with fail
  refine (HR.out _).mono ?_
  rintro e w1 ⟨rfl, hb⟩
  have s0 := kc ⟨w.heap.size, 0, none⟩ (.int .i64 n) hb (by first | assumption | simp [go_sem, *])
  have s1 := kc ⟨w.heap.size, 1, none⟩ (.int .i64 d) hb (by first | assumption | simp [go_sem, *])
  have hB1 := beyond (single w _) hb
  clear hb
  go_wp2_with fail
  refine (HA.out _ (pow_later ht hB1)).mono ?_
  rintro e w2 ⟨rfl, hb⟩
  have u0 := kc _ _ hb s0
  have u1 := kc _ _ hb s1
  have hB2 := beyond hB1 hb
  clear hb s0 s1
  go_wp2_with fail
  refine (HB.out _ (pow_later ht hB2)).mono ?_
  rintro e w3 ⟨rfl, hb⟩
  have hB3 := beyond hB2 hb
  clear hb
  go_wp2
  go_ret
  refine ⟨ret_str ?_, hB3⟩
  apply ByteArray.ext
  simp [ByteArray.data_append]
theorem yprintT (n d : Int) (w : World) (hn : I64 n) (hd : I64 d) (ht : Pow w) :
    Calls Tryd.prog 10 #[rv n d] w fun e w' => e = .returned (.string ⟨(printR n d).toArray⟩) ∧ Below w.heap.size w w' := by
  have k := askY n d hn hd
  cases r : rightR n d
  · rw [r] at k
    have e : printR n d = [] := by simp [printR, r]
    rw [e]
    exact yprint_wrong n d w k
  · rw [r] at k
    by_cases c : d = 1
    · subst c
      have e : printR n 1 = Lib.itoa n := by simp [printR, r]
      rw [e]
      exact yprint_one n _ w ht k (fun w h => format_any n w hn h)
    · have e : printR n d = Lib.itoa n ++ [47] ++ Lib.itoa d := by simp [printR, r, c]
      rw [e]
      exact yprint_raw21 n d _ _ w c (Lib.itoa_length_le n hn.1 hn.2) (Lib.itoa_length_le d hd.1 hd.2) ht k (fun w h => format_any n w hn h) (fun w h => format_any d w hd h)
end Go.Proofs.YtmpdicjjaoeblaaDoor
