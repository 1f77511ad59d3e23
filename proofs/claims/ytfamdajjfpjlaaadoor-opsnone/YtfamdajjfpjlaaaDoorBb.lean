/-
  The contracts of bound.Sum, Add, Print and of the law's own live: Sum reads a row of bounds and leaves the world; Add and Print make new memory alone; live is true where the library's table of powers of ten lies as its text lays it.
-/
import Derived.Test.YtfamdajjfpjlaaaDoorBa
import Derived.Test.YtfamdajjfpjlaaaDoorShelf
import Derived.Lib.AppendIntMem
import Derived.Lib.ItoaLen
namespace Go.Proofs.YtfamdajjfpjlaaaDoor
open Go.RowKit
def sT (l : List Int) : Int := l.foldl (fun t b => wrap64 (t + valV b)) 0
def sR (l : List Int) : Bool := l.foldl (fun t b => t && valR b) true
def sI (l : List Int) : Bool := l.foldl (fun t b => t || !finB b) false
def sBad (l : List Int) : Bool := l.any (fun b => !rightB b)
def sumB (l : List Int) : Int := if sBad l then 0 else if sI l then 2147483647 else ofB (sT l) (sR l)
def sumE (l : List Int) : Int := if sBad l then 7 else if sI l then 0 else ofE (sT l)
theorem take_snoc (l : List Int) (k : Nat) (h : k < l.length) : l.take (k + 1) = l.take k ++ [l.getD k 0] := by
  rw [List.take_succ_eq_append_getElem h]; simp [List.getD, h]
theorem sT_snoc (l : List Int) (x : Int) : sT (l ++ [x]) = wrap64 (sT l + valV x) := by simp [sT]
theorem sR_snoc (l : List Int) (x : Int) : sR (l ++ [x]) = (sR l && valR x) := by simp [sR]
theorem sI_snoc (l : List Int) (x : Int) : sI (l ++ [x]) = (sI l || !finB x) := by simp [sI]
theorem sBad_snoc (l : List Int) (x : Int) : sBad (l ++ [x]) = (sBad l || !rightB x) := by simp [sBad]
theorem sBad_of (l : List Int) (k : Nat) (h : k < l.length) (hx : rightB (l.getD k 0) = false) : sBad l = true := by
  simp only [sBad, List.any_eq_true]
  refine ⟨l.getD k 0, ?_, by simp only [hx]; rfl⟩
  simp only [List.getD, List.getElem?_eq_getElem h, Option.getD_some]
  exact List.getElem_mem h

theorem str_cat (a b : List UInt8) : ((⟨a.toArray⟩ : ByteArray) ++ (⟨b.toArray⟩ : ByteArray)) = ⟨(a ++ b).toArray⟩ := by
  apply ByteArray.ext
  simp [ByteArray.data_append]
theorem ret_str {a b : ByteArray} (h : a = b) : Ending.returned (.string a) = .returned (.string b) := by rw [h]

def printS (b : Int) : List UInt8 := if b = 2147483647 then [105, 110, 102] else if finB b then (if valR b then [60, 61] ++ Lib.itoa (valV b) else [60] ++ Lib.itoa (valV b)) else []
abbrev Pow (w : World) : Prop := Lib.TabIs Tryd.prog w "internal/strconv.uint64pow10" .u64 Lib.pow10Tab

theorem print_any (b : Int) (w : World) (ht : Pow w) :
    Calls Tryd.prog 107 #[.int .i32 b] w fun e w' => e = .returned (.string ⟨(printS b).toArray⟩) ∧ Below w.heap.size w w' := by
  by_cases h : b = 2147483647
  · subst h
    go_enter Tryd.func107, Tryd.ntmps107
    go_wp2_with fail
    go_ret
    exact ⟨rfl, Below.refl _ _⟩
  · have hb : (b == 2147483647) = false := by simpa using h
    cases f : finB b
    · have e1 : printS b = [] := by simp [printS, h, f]
      rw [e1]
      clear e1
      go_enter Tryd.func107, Tryd.ntmps107
      go_wp2_with (go_at_call 114; refine (value_any _ _).mono ?_; rintro e w' ⟨rfl, rfl⟩)
      go_ret
      exact ⟨rfl, Below.refl _ _⟩
    · have l := (fin_iff b).1 f
      have l0 : -9223372036854775808 ≤ valV b := by simp [valV, f]; omega
      have l1 : valV b ≤ 9223372036854775807 := by simp [valV, f]; omega
      have hl := Lib.itoa_length_le (valV b) l0 l1
      cases r : valR b
      · have e1 : printS b = [60] ++ Lib.itoa (valV b) := by simp [printS, h, f, r]
        rw [e1]
        clear e1 l
        go_enter Tryd.func107, Tryd.ntmps107
        go_wp2_with (first | (go_at_call 114; refine (value_any _ _).mono ?_; rintro e w' ⟨rfl, rfl⟩) | (go_at_call 103; refine (Go.Proofs.Tryd.strconv_Itoa _ l0 l1 _ ht).mono ?_; rintro e w' ⟨rfl, k, os, rfl⟩))
        go_ret
        exact ⟨ret_str (str_cat _ _), Lib.below_grow _ _ (Nat.le_refl _) _ _⟩
      · have e1 : printS b = [60, 61] ++ Lib.itoa (valV b) := by simp [printS, h, f, r]
        rw [e1]
        clear e1 l
        go_enter Tryd.func107, Tryd.ntmps107
        go_wp2_with (first | (go_at_call 114; refine (value_any _ _).mono ?_; rintro e w' ⟨rfl, rfl⟩) | (go_at_call 103; refine (Go.Proofs.Tryd.strconv_Itoa _ l0 l1 _ ht).mono ?_; rintro e w' ⟨rfl, k, os, rfl⟩))
        go_ret
        exact ⟨ret_str (str_cat _ _), Lib.below_grow _ _ (Nat.le_refl _) _ _⟩

theorem pow_later {w w' : World} (h : Pow w) (hb : Below w.heap.size w w') : Pow w' := Lib.tabBelow_of_tabIs h w' hb

theorem atMost_three (w : World) : Calls Tryd.prog 110 #[.int .i64 3] w fun e w' => e = .returned (.tuple #[.int .i32 7, .int .i64 0]) ∧ w' = w := atMost_any 3 w
theorem print_five (w : World) (ht : Pow w) : Calls Tryd.prog 107 #[.int .i32 (-5)] w fun e w' => e = .returned (.string ⟨#[60, 61, 45, 51]⟩) ∧ Below w.heap.size w w' := by
  have e : printS (-5) = [60, 61, 45, 51] := by decide +kernel
  have h := print_any (-5) w ht
  rw [e] at h
  exact h

end Go.Proofs.YtfamdajjfpjlaaaDoor
