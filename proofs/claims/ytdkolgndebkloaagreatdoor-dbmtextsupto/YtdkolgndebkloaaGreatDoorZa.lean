/-
  The contracts of the smallest functions of package bound and of the document's answer beside it (of, AtMost, LessThan, Right, Value, number): for every argument each returns what the plain functions below say, and the world stays.
-/
import Derived.Test.YtdkolgndebkloaaGreatDoorChecked
import Derived.WalkKit
import Derived.WalkLawsBesides
import Derived.Laws.BitsLemmas
import Derived.Test.YtdkolgndebkloaaGreatDoorShelf
import Derived.Lib.AppendIntMem
import Derived.Lib.ItoaLen
import Derived.Deep.QuietTactic
import Derived.BigQuiet
import Derived.Below
import Derived.WalkSmall
import Derived.Deep.RegionHeld3
import Derived.Deep.DeepCutAuto
import Derived.OwnWalk
import Derived.Laws.AppendOwn
import Derived.Deep.MidRow
import Derived.Laws.StructEq
namespace Go.Proofs.YtdkolgndebkloaaGreatDoor
open Go.RowKit

/-! ### The plain functions -/
def ofB (v : Int) (r : Bool) : Int := if v < -268435456 ∨ 268435456 < v then 0 else if r then 2*v+1 else 2*v
def ofE (v : Int) : Int := if v < -268435456 ∨ 268435456 < v then 10 else 0
def rightB (b : Int) : Bool := decide (b = 2147483647 ∨ (-536870912 ≤ b ∧ b ≤ 536870913))
def finB (b : Int) : Bool := decide (-536870912 ≤ b ∧ b ≤ 536870913)
def valV (b : Int) : Int := if finB b then b / 2 else 0
def valR (b : Int) : Bool := finB b && decide (b % 2 = 1)

theorem right_of_fin {b : Int} (h : finB b = true) : rightB b = true := by
  simp only [finB, rightB, decide_eq_true_eq] at *; exact .inr h
theorem right_inf : rightB 2147483647 = true := by decide
theorem fin_or_inf {b : Int} (h : rightB b = true) : b = 2147483647 ∨ finB b = true := by
  simp only [finB, rightB, decide_eq_true_eq] at *; exact h
theorem fin_iff (b : Int) : finB b = true ↔ (-536870912 ≤ b ∧ b ≤ 536870913) := by simp [finB]

theorem i32_and1 (n : Int) : bits .and .i32 n 1 = n % 2 := by
  have h1 : (BitVec.ofInt 32 1).toNat = 2 ^ 1 - 1 := by decide
  have key : (BitVec.ofInt 32 n &&& BitVec.ofInt 32 1).toNat = (n % ((2 ^ 32 : Nat) : Int)).toNat % 2 ^ 1 := by
    rw [BitVec.toNat_and, BitVec.toNat_ofInt, h1, Nat.and_two_pow_sub_one_eq_mod]
  show IntKind.i32.wrap ((BitVec.ofInt 32 n &&& BitVec.ofInt 32 1).toNat : Nat) = n % 2
  rw [key, IntKind.wrap_i32]
  omega

theorem tdiv_two (a : Int) : a.tdiv 2 = if 0 ≤ a then a / 2 else -((-a) / 2) := by
  split
  · rw [Int.tdiv_eq_ediv_of_nonneg (by assumption)]
  · have h : (-(-a)).tdiv 2 = -((-a).tdiv 2) := Int.neg_tdiv (-a) 2
    rw [Int.neg_neg] at h
    rw [h, Int.tdiv_eq_ediv_of_nonneg (by omega)]
theorem tmod_two (a : Int) : a.tmod 2 = a - 2 * a.tdiv 2 := by
  have := Int.mul_tdiv_add_tmod a 2
  omega

theorem ret_int {k : IntKind} {a b : Int} (h : a = b) : Ending.returned (.int k a) = .returned (.int k b) := by rw [h]
theorem ret_bool {a b : Bool} (h : a = b) : Ending.returned (.bool a) = .returned (.bool b) := by rw [h]
theorem ret_two {k l : IntKind} {a b c d : Int} (h : a = b) (g : c = d) : Ending.returned (.tuple #[.int k a, .int l c]) = .returned (.tuple #[.int k b, .int l d]) := by rw [h, g]
theorem ret_val {a b : Int} {c d e f : Bool} (h : a = b) (g : c = d) (i : e = f) : Ending.returned (.tuple #[.int .i64 a, .bool c, .bool e]) = .returned (.tuple #[.int .i64 b, .bool d, .bool f]) := by rw [h, g, i]

/-! ### of -/
theorem of_any (v : Int) (r : Bool) (w : World) :
    Calls Tryz.prog 85 #[.int .i64 v, .bool r] w fun e w' => e = .returned (.tuple #[.int .i32 (ofB v r), .int .i64 (ofE v)]) ∧ w' = w := by
  by_cases a : v < -268435456
  · have e1 : ofB v r = 0 := by simp [ofB, a]
    have e2 : ofE v = 10 := by simp [ofE, a]
    rw [e1, e2]
    clear e1 e2
    go_enter Tryz.func85, Tryz.ntmps85
    go_wp2
    go_ret2
    exact ⟨rfl, rfl⟩
  · by_cases b : 268435456 < v
    · have e1 : ofB v r = 0 := by simp [ofB, b]
      have e2 : ofE v = 10 := by simp [ofE, b]
      rw [e1, e2]
      clear e1 e2
      go_enter Tryz.func85, Tryz.ntmps85
      go_wp2
      go_ret2
      exact ⟨rfl, rfl⟩
    · cases r
      · have e1 : ofB v false = 2*v := by simp [ofB, a, b]
        have e2 : ofE v = 0 := by simp [ofE, a, b]
        rw [e1, e2]
        clear e1 e2
        go_enter Tryz.func85, Tryz.ntmps85
        go_wp2
        go_ret2
        exact ⟨rfl, rfl⟩
      · have e1 : ofB v true = 2*v+1 := by simp [ofB, a, b]
        have e2 : ofE v = 0 := by simp [ofE, a, b]
        rw [e1, e2]
        clear e1 e2
        go_enter Tryz.func85, Tryz.ntmps85
        go_wp2
        go_ret2
        exact ⟨rfl, rfl⟩

/-! ### The answer's of -/
theorem rof_any (v : Int) (r : Bool) (w : World) :
    Calls Tryz.prog 75 #[.int .i64 v, .bool r] w fun e w' => e = .returned (.tuple #[.int .i32 (ofB v r), .int .i64 (ofE v)]) ∧ w' = w := by
  by_cases a : v < -268435456
  · have e1 : ofB v r = 0 := by simp [ofB, a]
    have e2 : ofE v = 10 := by simp [ofE, a]
    rw [e1, e2]
    clear e1 e2
    go_enter Tryz.func75, Tryz.ntmps75
    go_wp2
    go_ret2
    exact ⟨rfl, rfl⟩
  · by_cases b : 268435456 < v
    · have e1 : ofB v r = 0 := by simp [ofB, b]
      have e2 : ofE v = 10 := by simp [ofE, b]
      rw [e1, e2]
      clear e1 e2
      go_enter Tryz.func75, Tryz.ntmps75
      go_wp2
      go_ret2
      exact ⟨rfl, rfl⟩
    · cases r
      · have e1 : ofB v false = 2*v := by simp [ofB, a, b]
        have e2 : ofE v = 0 := by simp [ofE, a, b]
        rw [e1, e2]
        clear e1 e2
        go_enter Tryz.func75, Tryz.ntmps75
        go_wp2
        go_ret2
        exact ⟨rfl, rfl⟩
      · have e1 : ofB v true = 2*v+1 := by simp [ofB, a, b]
        have e2 : ofE v = 0 := by simp [ofE, a, b]
        rw [e1, e2]
        clear e1 e2
        go_enter Tryz.func75, Tryz.ntmps75
        go_wp2
        go_ret2
        exact ⟨rfl, rfl⟩

/-! ### number, Right, Value -/
theorem number_any (b : Int) (w : World) (h0 : -2147483648 ≤ b) (h1 : b ≤ 2147483647) :
    Calls Tryz.prog 65 #[.int .i32 b] w fun e w' => e = .returned (.int .i64 (b / 2)) ∧ w' = w := by
  by_cases h : (b.tmod 2 != 0) = true
  · have e : (b - 1).tdiv 2 = b / 2 := by
      have h' : b.tmod 2 ≠ 0 := by simpa using h
      rw [tmod_two, tdiv_two] at h'
      rw [tdiv_two]
      split at h' <;> split <;> omega
    have E : Hid ((b - 1).tdiv 2 = b / 2) := e
    clear e
    go_enter Tryz.func65, Tryz.ntmps65
    go_wp2
    go_ret
    exact ⟨ret_int (E.out), rfl⟩
  · have h : (b.tmod 2 != 0) = false := by simpa using h
    have e : b.tdiv 2 = b / 2 := by
      have h' : b.tmod 2 = 0 := by simpa using h
      rw [tmod_two, tdiv_two] at h'
      rw [tdiv_two]
      split at h' <;> omega
    have E : Hid (b.tdiv 2 = b / 2) := e
    clear e
    go_enter Tryz.func65, Tryz.ntmps65
    go_wp2
    go_ret
    exact ⟨ret_int (E.out), rfl⟩

theorem right_any (b : Int) (w : World) :
    Calls Tryz.prog 41 #[.int .i32 b] w fun e w' => e = .returned (.bool (rightB b)) ∧ w' = w := by
  by_cases h : b = 2147483647
  · subst h
    go_enter Tryz.func41, Tryz.ntmps41
    go_wp2
    go_ret
    exact ⟨rfl, rfl⟩
  · have hb : (b == 2147483647) = false := by simpa using h
    by_cases l : -536870912 ≤ b
    · by_cases u : b ≤ 536870913
      · have e : rightB b = true := by simp [rightB, l, u]
        rw [e]
        clear e
        go_enter Tryz.func41, Tryz.ntmps41
        go_wp2
        go_ret
        exact ⟨rfl, rfl⟩
      · have e : rightB b = false := by simp [rightB, h, u]
        rw [e]
        clear e
        go_enter Tryz.func41, Tryz.ntmps41
        go_wp2
        go_ret
        exact ⟨rfl, rfl⟩
    · have e : rightB b = false := by simp [rightB, h, l]
      rw [e]
      clear e
      go_enter Tryz.func41, Tryz.ntmps41
      go_wp2
      go_ret
      exact ⟨rfl, rfl⟩

theorem rright_any (b : Int) (w : World) (h0 : -2147483648 ≤ b) (h1 : b ≤ 2147483647) :
    Calls Tryz.prog 44 #[.int .i32 b] w fun e w' => e = .returned (.bool (rightB b)) ∧ w' = w := by
  by_cases h : b = 2147483647
  · subst h
    go_enter Tryz.func44, Tryz.ntmps44
    go_wp2_with fail
    go_ret
    exact ⟨rfl, rfl⟩
  · have hb : (b == 2147483647) = false := by simpa using h
    by_cases l : -268435456 ≤ b / 2
    · by_cases u : b / 2 ≤ 268435456
      · have e : rightB b = true := by simp [rightB]; omega
        rw [e]
        clear e
        go_enter Tryz.func44, Tryz.ntmps44
        go_wp2_with (go_at_call 65; refine (number_any _ _ h0 h1).mono ?_; rintro e w' ⟨rfl, rfl⟩)
        go_ret
        exact ⟨rfl, rfl⟩
      · have e : rightB b = false := by simp [rightB]; omega
        rw [e]
        clear e
        have u : decide (b / 2 ≤ 268435456) = false := by simpa using u
        go_enter Tryz.func44, Tryz.ntmps44
        go_wp2_with (go_at_call 65; refine (number_any _ _ h0 h1).mono ?_; rintro e w' ⟨rfl, rfl⟩)
        go_ret
        exact ⟨rfl, rfl⟩
    · have e : rightB b = false := by simp [rightB]; omega
      rw [e]
      clear e
      go_enter Tryz.func44, Tryz.ntmps44
      go_wp2_with (go_at_call 65; refine (number_any _ _ h0 h1).mono ?_; rintro e w' ⟨rfl, rfl⟩)
      go_ret
      exact ⟨rfl, rfl⟩

theorem value_inf (w : World) :
    Calls Tryz.prog 61 #[.int .i32 2147483647] w fun e w' => e = .returned (.tuple #[.int .i64 0, .bool false, .bool false]) ∧ w' = w := by
  go_enter Tryz.func61, Tryz.ntmps61
  go_wp2_with fail
  go_ret3
  exact ⟨rfl, rfl⟩
theorem value_any (b : Int) (w : World) :
    Calls Tryz.prog 61 #[.int .i32 b] w fun e w' => e = .returned (.tuple #[.int .i64 (valV b), .bool (valR b), .bool (finB b)]) ∧ w' = w := by
  by_cases h : b = 2147483647
  · subst h
    exact value_inf w
  · have hb : (b == 2147483647) = false := by simpa using h
    by_cases f : finB b = true
    · have r := right_of_fin f
      have l := (fin_iff b).1 f
      have l0 := l.1
      have l1 := l.2
      have e1 : valV b = b / 2 := by simp [valV, f]
      have e2 : valR b = (bits BinOp.and IntKind.i32 b 1 == 1) := by rw [i32_and1]; simp [valR, f]; rfl
      rw [e1, e2, f]
      clear e1 e2 f l
      go_enter Tryz.func61, Tryz.ntmps61
      go_wp2_with (go_at_call 41; refine (right_any _ _).mono ?_; rintro e w' ⟨rfl, rfl⟩)
      go_ret3
      exact ⟨rfl, rfl⟩
    · have f : finB b = false := by simpa using f
      have r : rightB b = false := by
        simp only [finB, rightB, decide_eq_false_iff_not] at *
        omega
      have e1 : valV b = 0 := by simp [valV, f]
      have e2 : valR b = false := by simp [valR, f]
      rw [e1, e2, f]
      clear e1 e2 f
      go_enter Tryz.func61, Tryz.ntmps61
      go_wp2_with (go_at_call 41; refine (right_any _ _).mono ?_; rintro e w' ⟨rfl, rfl⟩)
      go_ret3
      exact ⟨rfl, rfl⟩

theorem rvalue_inf (w : World) :
    Calls Tryz.prog 62 #[.int .i32 2147483647] w fun e w' => e = .returned (.tuple #[.int .i64 0, .bool false, .bool false]) ∧ w' = w := by
  go_enter Tryz.func62, Tryz.ntmps62
  go_wp2_with fail
  go_ret3
  exact ⟨rfl, rfl⟩
theorem rvalue_any (b : Int) (w : World) (h0 : -2147483648 ≤ b) (h1 : b ≤ 2147483647) :
    Calls Tryz.prog 62 #[.int .i32 b] w fun e w' => e = .returned (.tuple #[.int .i64 (valV b), .bool (valR b), .bool (finB b)]) ∧ w' = w := by
  by_cases h : b = 2147483647
  · subst h
    exact rvalue_inf w
  · have hb : (b == 2147483647) = false := by simpa using h
    by_cases f : finB b = true
    · have r := right_of_fin f
      have l := (fin_iff b).1 f
      have l0 := l.1
      have l1 := l.2
      have e1 : valV b = b / 2 := by simp [valV, f]
      have e2 : valR b = (b != 2 * (b / 2)) := by
        rw [Bool.eq_iff_iff]
        simp [valR, f]
        omega
      rw [e1, e2, f]
      clear e1 e2 f l
      go_enter Tryz.func62, Tryz.ntmps62
      go_wp2_with (first | (go_at_call 44; refine (rright_any _ _ h0 h1).mono ?_; rintro e w' ⟨rfl, rfl⟩) | (go_at_call 65; refine (number_any _ _ h0 h1).mono ?_; rintro e w' ⟨rfl, rfl⟩))
      go_ret3
      exact ⟨rfl, rfl⟩
    · have f : finB b = false := by simpa using f
      have r : rightB b = false := by
        simp only [finB, rightB, decide_eq_false_iff_not] at *
        omega
      have e1 : valV b = 0 := by simp [valV, f]
      have e2 : valR b = false := by simp [valR, f]
      rw [e1, e2, f]
      clear e1 e2 f
      go_enter Tryz.func62, Tryz.ntmps62
      go_wp2_with (go_at_call 44; refine (rright_any _ _ h0 h1).mono ?_; rintro e w' ⟨rfl, rfl⟩)
      go_ret3
      exact ⟨rfl, rfl⟩
end Go.Proofs.YtdkolgndebkloaaGreatDoor

/-
  The contracts of bound.Sum, Add, Print and of the law's own live: Sum reads a row of bounds and leaves the world; Add and Print make new memory alone; live is true where the library's table of powers of ten lies as its text lays it.
-/
namespace Go.Proofs.YtdkolgndebkloaaGreatDoor
open Go.RowKit
def sT (l : List Int) : Int := l.foldl (fun t b => wrap64 (t + valV b)) 0
def sR (l : List Int) : Bool := l.foldl (fun t b => t && valR b) true
def sI (l : List Int) : Bool := l.foldl (fun t b => t || !finB b) false
def sBad (l : List Int) : Bool := l.any (fun b => !rightB b)
def sumB (l : List Int) : Int := if sBad l then 0 else if sI l then 2147483647 else ofB (sT l) (sR l)
def sumE (l : List Int) : Int := if sBad l then 7 else if sI l then 0 else ofE (sT l)
theorem take_snoc (l : List Int) (k : Nat) (h : k < l.length) : l.take (k + 1) = l.take k ++ [l.getD k 0] := by
  rw [List.take_succ_eq_append_getElem h]; simp [List.getD, h]
theorem sT_snoc (l : List Int) (x : Int) : sT (l ++ [x]) = wrap64 (sT l + valV x) := by simp [sT]
theorem sR_snoc (l : List Int) (x : Int) : sR (l ++ [x]) = (sR l && valR x) := by simp [sR]
theorem sI_snoc (l : List Int) (x : Int) : sI (l ++ [x]) = (sI l || !finB x) := by simp [sI]
theorem sBad_snoc (l : List Int) (x : Int) : sBad (l ++ [x]) = (sBad l || !rightB x) := by simp [sBad]
theorem sBad_of (l : List Int) (k : Nat) (h : k < l.length) (hx : rightB (l.getD k 0) = false) : sBad l = true := by
  simp only [sBad, List.any_eq_true]
  refine ⟨l.getD k 0, ?_, by simp only [hx]; rfl⟩
  simp only [List.getD, List.getElem?_eq_getElem h, Option.getD_some]
  exact List.getElem_mem h

theorem str_cat (a b : List UInt8) : ((⟨a.toArray⟩ : ByteArray) ++ (⟨b.toArray⟩ : ByteArray)) = ⟨(a ++ b).toArray⟩ := by
  apply ByteArray.ext
  simp [ByteArray.data_append]
theorem ret_str {a b : ByteArray} (h : a = b) : Ending.returned (.string a) = .returned (.string b) := by rw [h]

def printS (b : Int) : List UInt8 := if b = 2147483647 then [105, 110, 102] else if finB b then (if valR b then [60, 61] ++ Lib.itoa (valV b) else [60] ++ Lib.itoa (valV b)) else []
abbrev Pow (w : World) : Prop := Lib.TabIs Tryz.prog w "internal/strconv.uint64pow10" .u64 Lib.pow10Tab

theorem print_any (b : Int) (w : World) (ht : Pow w) :
    Calls Tryz.prog 32 #[.int .i32 b] w fun e w' => e = .returned (.string ⟨(printS b).toArray⟩) ∧ Below w.heap.size w w' := by
  by_cases h : b = 2147483647
  · subst h
    go_enter Tryz.func32, Tryz.ntmps32
    go_wp2_with fail
    go_ret
    exact ⟨rfl, Below.refl _ _⟩
  · have hb : (b == 2147483647) = false := by simpa using h
    cases f : finB b
    · have e1 : printS b = [] := by simp [printS, h, f]
      rw [e1]
      clear e1
      go_enter Tryz.func32, Tryz.ntmps32
      go_wp2_with (go_at_call 61; refine (value_any _ _).mono ?_; rintro e w' ⟨rfl, rfl⟩)
      go_ret
      exact ⟨rfl, Below.refl _ _⟩
    · have l := (fin_iff b).1 f
      have l0 : -9223372036854775808 ≤ valV b := by simp [valV, f]; omega
      have l1 : valV b ≤ 9223372036854775807 := by simp [valV, f]; omega
      have hl := Lib.itoa_length_le (valV b) l0 l1
      cases r : valR b
      · have e1 : printS b = [60] ++ Lib.itoa (valV b) := by simp [printS, h, f, r]
        rw [e1]
        clear e1 l
        go_enter Tryz.func32, Tryz.ntmps32
        go_wp2_with (first | (go_at_call 61; refine (value_any _ _).mono ?_; rintro e w' ⟨rfl, rfl⟩) | (go_at_call 26; refine (Go.Proofs.Tryz.strconv_Itoa _ l0 l1 _ ht).mono ?_; rintro e w' ⟨rfl, k, os, rfl⟩))
        go_ret
        exact ⟨ret_str (str_cat _ _), Lib.below_grow _ _ (Nat.le_refl _) _ _⟩
      · have e1 : printS b = [60, 61] ++ Lib.itoa (valV b) := by simp [printS, h, f, r]
        rw [e1]
        clear e1 l
        go_enter Tryz.func32, Tryz.ntmps32
        go_wp2_with (first | (go_at_call 61; refine (value_any _ _).mono ?_; rintro e w' ⟨rfl, rfl⟩) | (go_at_call 26; refine (Go.Proofs.Tryz.strconv_Itoa _ l0 l1 _ ht).mono ?_; rintro e w' ⟨rfl, k, os, rfl⟩))
        go_ret
        exact ⟨ret_str (str_cat _ _), Lib.below_grow _ _ (Nat.le_refl _) _ _⟩

theorem pow_later {w w' : World} (h : Pow w) (hb : Below w.heap.size w w') : Pow w' := Lib.tabBelow_of_tabIs h w' hb

theorem print_five (w : World) (ht : Pow w) : Calls Tryz.prog 32 #[.int .i32 (-5)] w fun e w' => e = .returned (.string ⟨#[60, 61, 45, 51]⟩) ∧ Below w.heap.size w w' := by
  have e : printS (-5) = [60, 61, 45, 51] := by decide +kernel
  have h := print_any (-5) w ht
  rw [e] at h
  exact h

end Go.Proofs.YtdkolgndebkloaaGreatDoor

/-
  The contracts of the small functions of dbm: side, place, has, mayHave, plus, narrow, tighten.
-/
namespace Go.Proofs.YtdkolgndebkloaaGreatDoor
open Go.RowKit
set_option linter.unusedVariables false
set_option maxRecDepth 100000

theorem below_one (w : World) (a : Obj) : Below w.heap.size w (w.alloc a) := (Below.refl _ _).alloc (Nat.le_refl _) _
theorem hideD {p : Prop} (h : p) : Hid p := h
theorem below_draw (w : World) (k : Nat) : Below w.heap.size w (w.drewN k) := below_drewN (Below.refl _ _) k
theorem kc {W w1 : World} (a : Addr) (v : Value) (hb : Below W.heap.size W w1) (h : W.cell? a = some v) : w1.cell? a = some v := (hb.cell (World.block_lt_of_cell? _ _ h)).trans h
theorem kf {W w1 : World} (a : Addr) (v : Value) (hb : Below W.heap.size W w1) (h : W.cell? a = some v) (g : W.frozen? a = false) : w1.frozen? a = false := (hb.frozen (World.block_lt_of_cell? _ _ h)).trans g
theorem beyondD {w w1 w2 : World} (h1 : Below w.heap.size w w1) (h2 : Below w1.heap.size w1 w2) : Below w.heap.size w w2 := h1.trans (h2.mono h1.size)
theorem rI {k : IntKind} {a b : Int} (h : a = b) : Ending.returned (.int k a) = .returned (.int k b) := by rw [h]

theorem side_any (n : Nat) (w : World) (h : n ≤ 8) :
    Calls Tryz.prog 40 #[.agg #[.int .i64 n]] w fun e w' => e = .returned (.int .i64 ((n + 1 : Nat) : Int)) ∧ Below w.heap.size w w' := by
  go_enter Tryz.func40, Tryz.ntmps40
  go_wp2
  go_ret
  exact ⟨rI (by first | omega | (unfold wrap64; omega)), below_one _ _⟩
theorem mayHave_any (n : Int) (w : World) :
    Calls Tryz.prog 38 #[.int .i64 n] w fun e w' => e = .returned (.bool (decide (0 ≤ n ∧ n ≤ 8))) ∧ w' = w := by
  by_cases h : 0 ≤ n
  · by_cases h1 : n ≤ 8
    · rw [decide_eq_true ⟨h, h1⟩]
      go_enter Tryz.func38, Tryz.ntmps38
      go_wp2
      all_goals go_ret
      all_goals first | exact ⟨rfl, rfl⟩ | (exfalso; omega) | (exfalso; simp_all; done) | (rename_i hh; exfalso; simp at hh; omega) | trace_state
    · rw [decide_eq_false (by omega)]
      go_enter Tryz.func38, Tryz.ntmps38
      go_wp2
      all_goals go_ret
      all_goals first | exact ⟨rfl, rfl⟩ | (exfalso; omega) | (exfalso; simp_all; done) | (rename_i hh; exfalso; simp at hh; omega) | trace_state
  · rw [decide_eq_false (by omega)]
    go_enter Tryz.func38, Tryz.ntmps38
    go_wp2
    all_goals go_ret
    all_goals first | exact ⟨rfl, rfl⟩ | (exfalso; omega) | (exfalso; simp_all; done) | (rename_i hh; exfalso; simp at hh; omega) | trace_state
/-- A row's cell of a draft. -/
abbrev at9 (b i j : Nat) : Addr := ⟨b, 1 + i * 9 + j, none⟩
theorem place_raw (n k s q r : Int) (w : World) (hs : ¬ s = 0) (q1 : IntKind.i64.wrap (k.tdiv s) = q) (q2 : k.tmod s = r) (HS : Hid (∀ w, Calls Tryz.prog 40 #[.agg #[.int .i64 n]] w fun e w' => e = .returned (.int .i64 s) ∧ Below w.heap.size w w')) :
    Calls Tryz.prog 30 #[.agg #[.int .i64 n], .int .i64 k] w fun e w' => e = .returned (.tuple #[.int .i64 q, .int .i64 r]) ∧ Below w.heap.size w w' := by
  go_enter Tryz.func30, Tryz.ntmps30
  go_wp2_with fail
  have c0 : (w.alloc (.cells #[.int .i64 n] 56)).cell? ⟨w.heap.size, 0, none⟩ = some (.int .i64 n) := by simp [go_sem]
  have B0 := below_one w (.cells #[.int .i64 n] 56)
  generalize w.alloc (.cells #[.int .i64 n] 56) = W at *
  go_region_held3 (fun w' => Below w.heap.size w w' ∧ w'.cell? ⟨w.heap.size, 0, none⟩ = some (.int .i64 n))
    (first | exact ⟨by first | assumption | (apply Below.drew; assumption), by first | assumption | simp [go_sem, *]⟩ | go_keep)
    (first | (go_at_call 40; refine (HS.out _).mono ?_; rintro e w' ⟨rfl, hb⟩; have s0 := kc ⟨w.heap.size, 0, none⟩ (.int .i64 n) hb (by first | assumption | simp [go_sem, *]); have s1 := beyondD (by first | assumption | (apply Below.drew; assumption)) hb))
  all_goals
    go_wp2
    refine bodyPost_ret (v := .tuple #[.int .i64 q, .int .i64 r]) (by simp [results, Tryz.results30, go_sem, *]) rfl ⟨rfl, ?_⟩
    assumption
theorem place_any (n k : Nat) (w : World) (h : n ≤ 8) (hk : k < 81) :
    Calls Tryz.prog 30 #[.agg #[.int .i64 n], .int .i64 k] w fun e w' => e = .returned (.tuple #[.int .i64 ((k / (n + 1) : Nat) : Int), .int .i64 ((k % (n + 1) : Nat) : Int)]) ∧ Below w.heap.size w w' := by
  refine place_raw n k ((n + 1 : Nat) : Int) _ _ w (by omega) ?_ ?_ (fun w => side_any n w h)
  · rw [Int.tdiv_eq_ediv_of_nonneg (by omega), ← Int.natCast_ediv]
    have := Nat.div_le_self k (n + 1)
    generalize k / (n + 1) = z at *
    rw [IntKind.wrap_i64]
    omega
  · rw [Int.tmod_eq_emod_of_nonneg (by omega), ← Int.natCast_emod]
def opn : Int := 4611686018427387904
def dplus (a b : Int) : Int := if a = opn ∨ b = opn then opn else wrap64 (wrap64 (a + b) - bits .and .i64 (bits .or .i64 a b) 1)
theorem dplus_any (a b : Int) (w : World) :
    Calls Tryz.prog 90 #[.int .i64 a, .int .i64 b] w fun e w' => e = .returned (.int .i64 (dplus a b)) ∧ w' = w := by
  by_cases h : a = opn
  · have e : dplus a b = opn := by simp [dplus, h]
    rw [e]
    clear e
    unfold opn at *
    go_enter Tryz.func90, Tryz.ntmps90
    go_wp2
    all_goals go_ret
    all_goals first | exact ⟨rfl, rfl⟩ | (exfalso; omega) | (exfalso; simp_all; done) | (rename_i hh; exfalso; simp at hh; omega) | trace_state
  · by_cases h1 : b = opn
    · have e : dplus a b = opn := by simp [dplus, h1]
      rw [e]
      clear e
      unfold opn at *
      go_enter Tryz.func90, Tryz.ntmps90
      go_wp2
      all_goals go_ret
      all_goals first | exact ⟨rfl, rfl⟩ | (exfalso; omega) | (exfalso; simp_all; done) | (rename_i hh; exfalso; simp at hh; omega) | trace_state
    · have e : dplus a b = wrap64 (wrap64 (a + b) - bits .and .i64 (bits .or .i64 a b) 1) := by simp [dplus, h, h1]
      rw [e]
      clear e
      unfold opn at *
      go_enter Tryz.func90, Tryz.ntmps90
      go_wp2
      all_goals go_ret
      all_goals first | exact ⟨rfl, rfl⟩ | (exfalso; omega) | (exfalso; simp_all; done) | (rename_i hh; exfalso; simp at hh; omega) | trace_state
def narB (x : Int) : Int := if x = opn then 2147483647 else if x < -536870912 ∨ 536870913 < x then 0 else x
def narOk (x : Int) : Bool := decide (x = opn) || !decide (x < -536870912 ∨ 536870913 < x)
theorem narrow_dbm (x : Int) (w : World) :
    Calls Tryz.prog 64 #[.int .i64 x] w fun e w' => e = .returned (.tuple #[.int .i32 (narB x), .bool (narOk x)]) ∧ w' = w := by
  by_cases h : x = opn
  · have e : narB x = 2147483647 := by simp [narB, h]
    have e1 : narOk x = true := by simp [narOk, h]
    rw [e, e1]
    clear e e1
    unfold opn at *
    go_enter Tryz.func64, Tryz.ntmps64
    go_wp2
    all_goals (refine bodyPost_ret (v := .tuple #[.int .i32 2147483647, .bool true]) (by simp [results, Tryz.results64, go_sem, *]) rfl ?_)
    all_goals first | exact ⟨rfl, rfl⟩ | (exfalso; omega) | (exfalso; simp_all; done) | (rename_i hh; exfalso; simp at hh; omega) | trace_state
  · by_cases h1 : x < -536870912 ∨ 536870913 < x
    · have e : narB x = 0 := by simp [narB, h, h1]
      have e1 : narOk x = false := by simp [narOk, h, h1]
      rw [e, e1]
      clear e e1
      unfold opn at *
      go_enter Tryz.func64, Tryz.ntmps64
      go_wp2
      all_goals (refine bodyPost_ret (v := .tuple #[.int .i32 0, .bool false]) (by simp [results, Tryz.results64, go_sem, *]) rfl ?_)
      all_goals first | exact ⟨rfl, rfl⟩ | (exfalso; omega) | (exfalso; simp_all; done) | (rename_i hh; exfalso; simp at hh; omega) | trace_state
    · have e : narB x = x := by simp [narB, h, h1]
      have e1 : narOk x = true := by simp [narOk, h, h1]
      rw [e, e1]
      clear e e1
      unfold opn at *
      go_enter Tryz.func64, Tryz.ntmps64
      go_wp2
      all_goals (refine bodyPost_ret (v := .tuple #[.int .i32 x, .bool true]) (by simp [results, Tryz.results64, go_sem, *]) rfl ?_)
      all_goals first | exact ⟨rfl, rfl⟩ | (exfalso; omega) | (exfalso; simp_all; done) | (rename_i hh; exfalso; simp at hh; omega) | trace_state
theorem tighten_inf (p : Addr) (i j : Int) (w : World) :
    Calls Tryz.prog 42 #[.pointer (some p), .int .i64 i, .int .i64 j, .int .i32 2147483647] w fun e w' => e = .returned (.tuple #[]) ∧ w' = w := by
  go_enter Tryz.func42, Tryz.ntmps42
  go_wp2
  go_end0
  exact ⟨rfl, rfl⟩
theorem tighten_fin (b i j : Nat) (x y : Int) (w : World) (i1 : i ≤ 8) (j1 : j ≤ 8) (hx : (x == 2147483647) = false) (x0 : -2147483648 ≤ x) (x1 : x ≤ 2147483647) (hc : w.cell? (at9 b i j) = some (.int .i64 y)) (hf : w.frozen? (at9 b i j) = false) :
    Calls Tryz.prog 42 #[.pointer (some ⟨b, 0, none⟩), .int .i64 i, .int .i64 j, .int .i32 x] w fun e w' => e = .returned (.tuple #[]) ∧ w' = (w.setCell (at9 b i j) (.int .i64 (min y x))).drew := by
  have ex : wrap64 x = x := by unfold wrap64; omega
  have EX := hideD ex
  clear ex
  go_enter Tryz.func42, Tryz.ntmps42
  go_wp2
  go_big_region
  all_goals go_wp2
  all_goals go_end0
  all_goals
    have ex := EX.out
    refine ⟨rfl, ?_⟩
    rw [show min y x = (if y ≤ x then y else x) from Int.min_def y x]
    all_goals first | (rw [if_pos (by omega)]; done) | (rw [if_pos (by omega), ex]; done) | (rw [if_neg (by omega)]; done) | (rw [if_neg (by omega), ex]; done)
end Go.Proofs.YtdkolgndebkloaaGreatDoor

/-
  A draft in memory, and the contract of draftOf.
-/
namespace Go.Proofs.YtdkolgndebkloaaGreatDoor
open Go.RowKit
set_option linter.unusedVariables false
abbrev Mat := Nat → Nat → Int
def upd (r : Mat) (i j : Nat) (v : Int) : Mat := fun a c => if a = i ∧ c = j then v else r a c
/-- In block b there lies a draft of n clocks with these rows. -/
structure Draft (w : World) (b n : Nat) (r : Mat) : Prop where
  clocks : w.cell? ⟨b, 0, none⟩ = some (.int .i64 n)
  cell : ∀ i j, i ≤ 8 → j ≤ 8 → w.cell? (at9 b i j) = some (.int .i64 (r i j))
  free : ∀ i j, i ≤ 8 → j ≤ 8 → w.frozen? (at9 b i j) = false
theorem Draft.set {w : World} {b n : Nat} {r : Mat} (h : Draft w b n r) {i j : Nat} (hi : i ≤ 8) (hj : j ≤ 8) (v : Int) : Draft (w.setCell (at9 b i j) (.int .i64 v)) b n (upd r i j v) := by
  refine ⟨?_, ?_, ?_⟩
  · rw [World.cell?_setCell_other _ _ _ _ (by intro e; injection e; omega)]
    exact h.clocks
  · intro a c ha hc
    by_cases e : a = i ∧ c = j
    · obtain ⟨rfl, rfl⟩ := e
      rw [World.cell?_setCell_same _ _ _ (h.cell a c ha hc)]
      simp [upd]
    · rw [World.cell?_setCell_other _ _ _ _ (by intro e; injection e; omega), h.cell a c ha hc]
      simp [upd, e]
  · intro a c ha hc
    rw [World.frozen?_setCell]
    exact h.free a c ha hc
theorem Draft.drew {w : World} {b n : Nat} {r : Mat} (h : Draft w b n r) : Draft w.drew b n r := ⟨h.clocks, h.cell, h.free⟩
theorem Draft.drewN {w : World} {b n : Nat} {r : Mat} (h : Draft w b n r) (k : Nat) : Draft (w.drewN k) b n r := ⟨h.clocks, h.cell, h.free⟩
theorem Draft.lt {w : World} {b n : Nat} {r : Mat} (h : Draft w b n r) : b < w.heap.size := World.block_lt_of_cell? _ _ h.clocks
theorem Draft.later {w w' : World} {b n : Nat} {r : Mat} (h : Draft w b n r) {B : Nat} (hb : Below B w w') (hB : b < B) : Draft w' b n r :=
  ⟨(hb.cell hB).trans h.clocks, fun i j hi hj => (hb.cell (p := at9 b i j) hB).trans (h.cell i j hi hj), fun i j hi hj => (hb.frozen (p := at9 b i j) hB).trans (h.free i j hi hj)⟩
theorem Draft.ext {w : World} {b n : Nat} {r s : Mat} (h : Draft w b n r) (e : ∀ i j, i ≤ 8 → j ≤ 8 → r i j = s i j) : Draft w b n s :=
  ⟨h.clocks, fun i j hi hj => by rw [h.cell i j hi hj, e i j hi hj], h.free⟩

def z82 : Array Value := Array.replicate 82 (.int .i64 0)
theorem zero82 (w : World) : Sem.run Tryz.prog (zeroValue 86) w = .ok (.agg z82) w := by kernel_rfl
theorem z82_ne : (z82 = #[]) = False := by simp [z82]
theorem new_draft (w : World) (n : Nat) (T : TypeId) : Draft (w.alloc (.cells (z82.setIfInBounds 0 (.int .i64 n)) T)) w.heap.size n (fun _ _ => 0) := by
  refine ⟨?_, ?_, ?_⟩
  · simp [go_sem, z82]
  · intro i j hi hj
    rw [World.cell?_alloc_at _ _ _ _ rfl, Array.getElem?_setIfInBounds_ne (by omega)]
    rw [z82, Array.getElem?_replicate, if_pos (by omega)]
  · intro i j hi hj
    simp [go_sem]
/-- The rows of all valuations, in the part that is laid: the rows ahead of I, and of row I the places ahead of J. -/
def startV (i j : Nat) : Int := if i ≠ 0 ∧ i ≠ j then 4611686018427387904 else 1
def startR (n I J : Nat) : Mat := fun a c => if (a < I ∧ c ≤ n) ∨ (a = I ∧ c < J) then startV a c else 0
theorem startR_next (n I J : Nat) : upd (startR n I J) I J (startV I J) = startR n I (J + 1) := by
  funext a c
  unfold upd startR
  by_cases e : a = I ∧ c = J
  · obtain ⟨rfl, rfl⟩ := e
    simp
  · rw [if_neg e]
    congr 1
    apply propext
    omega
theorem startR_row (n I : Nat) : startR n I (n + 1) = startR n (I + 1) 0 := by
  funext a c
  unfold startR
  congr 1
  apply propext
  omega
set_option maxHeartbeats 1000000 in
theorem draftOf_any (n : Nat) (w : World) (h : n ≤ 8) :
    Calls Tryz.prog 39 #[.int .i64 n] w fun e w' => e = .returned (.pointer (some ⟨w.heap.size, 0, none⟩)) ∧ Draft w' w.heap.size n (startR n (n + 1) 0) ∧ Below w.heap.size w w' := by
  have Z := fun w => zero82 w
  have Zn := z82_ne
  have D0 := hideD (new_draft w n 86)
  go_enter Tryz.func39, Tryz.ntmps39
  go_wp2_with fail
  have B0 := below_one w (.cells (z82.setIfInBounds 0 (.int .i64 n)) 86)
  generalize w.alloc (.cells (z82.setIfInBounds 0 (.int .i64 n)) 86) = W at *
  have e0 : (fun _ _ => (0 : Int)) = startR n 0 0 := by funext a c; simp [startR]
  rw [e0] at D0
  clear Z Zn e0
  go_loopw [4] (fun s wr => ∃ I : Nat, I ≤ n + 1 ∧ s = .int .i64 I ∧ Hid (Draft wr w.heap.size n (startR n I 0)) ∧ Hid (Below w.heap.size w wr)) (fun s _ => n + 1 - (intOf s).toNat)
  case atStart => exact ⟨0, by omega, rfl, D0, B0⟩
  case round =>
    obtain ⟨I, hI, rfl, hD, hB⟩ := hrel
    by_cases c : I ≤ n
    · go_wp2_with fail
      go_loopw [5] (fun s wr => ∃ J : Nat, J ≤ n + 1 ∧ s = .int .i64 J ∧ Hid (Draft wr w.heap.size n (startR n I J)) ∧ Hid (Below w.heap.size w wr)) (fun s _ => n + 1 - (intOf s).toNat)
      case atStart => exact ⟨0, by omega, rfl, hD, hB⟩
      case round =>
        obtain ⟨J, hJ, rfl, hD, hB⟩ := hrel
        by_cases cj : J ≤ n
        · have hc := hD.out.cell I J (by omega) (by omega)
          have hf := hD.out.free I J (by omega) (by omega)
          have nx := startR_next n I J
          by_cases e : I ≠ 0 ∧ I ≠ J
          · have ev : startV I J = 4611686018427387904 := by simp [startV, e]
            have t1 : ((I : Int) != 0) = true := by simp; omega
            have t2 : ((I : Int) != (J : Int)) = true := by simp; omega
            go_wp2_with fail
            go_roundw
            case rel => exact ⟨J + 1, by omega, by go_num, (by rw [← nx, ev]; exact hD.out.set (by omega) (by omega) _ : Draft _ _ _ _), hB.out.setCell (Nat.le_refl _) _⟩
            case measure => simp [intOf]; omega
          · have ev : startV I J = 1 := by simp [startV]; omega
            by_cases e1 : I = 0
            · subst e1
              have hc : wr.cell? ⟨w.heap.size, 1 + J, none⟩ = some (.int .i64 (startR n 0 J 0 J)) := by have := hc; simpa using this
              have hf : wr.frozen? ⟨w.heap.size, 1 + J, none⟩ = false := by have := hf; simpa using this
              go_wp2_with fail
              go_roundw
              case rel =>
                refine ⟨J + 1, by omega, by go_num, ?_, hB.out.setCell (Nat.le_refl _) _⟩
                have := hD.out.set (i := 0) (j := J) (by omega) (by omega) 1
                rw [← nx, ev]
                exact hideD (by simpa [at9] using this)
              case measure => simp [intOf]; omega
            · have t1 : ((I : Int) != 0) = true := by simp; omega
              obtain rfl : I = J := by omega
              go_wp2_with fail
              go_roundw
              case rel => exact ⟨I + 1, by omega, by go_num, (by rw [← nx, ev]; exact hD.out.set (by omega) (by omega) _ : Draft _ _ _ _), hB.out.setCell (Nat.le_refl _) _⟩
              case measure => simp [intOf]; omega
        · have ej : J = n + 1 := by omega
          subst ej
          rw [startR_row] at hD
          go_wp2_with fail
          go_roundw
          case rel => exact ⟨I + 1, by omega, by go_num, hD, hB⟩
          case measure => simp [intOf]; omega
    · have eI : I = n + 1 := by omega
      subst eI
      go_wp2_with fail
      go_ret
      exact ⟨rfl, hD.out, hB.out⟩
end Go.Proofs.YtdkolgndebkloaaGreatDoor

/-
  The contract of closeBy and close.
-/
namespace Go.Proofs.YtdkolgndebkloaaGreatDoor
open Go.RowKit
set_option linter.unusedVariables false
def cbStep (k i j : Nat) (r : Mat) : Option Mat :=
  if r i j ≤ dplus (r i k) (r k j) then some r else if i = j then none else some (upd r i j (dplus (r i k) (r k j)))
def cbRow (k i : Nat) : Nat → Mat → Option Mat
  | 0, r => some r
  | c + 1, r => (cbRow k i c r).bind (cbStep k i c)
def cbAll (k n : Nat) : Nat → Mat → Option Mat
  | 0, r => some r
  | c + 1, r => (cbAll k n c r).bind (cbRow k c (n + 1))
theorem cbRow_none {k i : Nat} {r : Mat} : ∀ {c : Nat} (d : Nat), c ≤ d → cbRow k i c r = none → cbRow k i d r = none := by
  intro c d h e
  induction d with
  | zero => obtain rfl : c = 0 := by omega
            exact e
  | succ d ih =>
    by_cases q : c = d + 1
    · subst q; exact e
    · simp [cbRow, ih (by omega)]
theorem cbAll_none {k n : Nat} {r : Mat} : ∀ {c : Nat} (d : Nat), c ≤ d → cbAll k n c r = none → cbAll k n d r = none := by
  intro c d h e
  induction d with
  | zero => obtain rfl : c = 0 := by omega
            exact e
  | succ d ih =>
    by_cases q : c = d + 1
    · subst q; exact e
    · simp [cbAll, ih (by omega)]
set_option maxHeartbeats 1000000 in
theorem closeBy_any (b n k : Nat) (r : Mat) (w : World) (h : n ≤ 8) (hk : k ≤ n) (hD : Draft w b n r) :
    Calls Tryz.prog 78 #[.pointer (some ⟨b, 0, none⟩), .int .i64 k] w fun e w' => e = .returned (.bool (cbAll k n (n + 1) r).isSome) ∧ Below b w w' ∧ (∃ s, Draft w' b n s ∧ ∀ s', cbAll k n (n + 1) r = some s' → s' = s) := by
  have HD := hideD hD
  clear hD
  go_enter Tryz.func78, Tryz.ntmps78
  go_wp2_with fail
  go_loopw [5] (fun s wr => ∃ (I : Nat) (q : Mat), I ≤ n + 1 ∧ s = .int .i64 I ∧ Hid (cbAll k n I r = some q) ∧ Hid (Draft wr b n q) ∧ Hid (Below b w wr)) (fun s _ => n + 1 - (intOf s).toNat)
  case atStart => exact ⟨0, r, by omega, rfl, rfl, HD, Below.refl _ _⟩
  case round =>
    obtain ⟨I, q, hI, rfl, hq, hD, hB⟩ := hrel
    have hcl := hD.out.clocks
    by_cases c : I ≤ n
    · go_wp2_with fail
      clear hcl
      go_loopw [6] (fun s wr => ∃ (J : Nat) (p : Mat), J ≤ n + 1 ∧ s = .int .i64 J ∧ Hid (cbRow k I J q = some p) ∧ Hid (Draft wr b n p) ∧ Hid (Below b w wr)) (fun s _ => n + 1 - (intOf s).toNat)
      case atStart => exact ⟨0, q, by omega, rfl, rfl, hD, hB⟩
      case round =>
        obtain ⟨J, p, hJ, rfl, hp, hD, hB⟩ := hrel
        have hcl := hD.out.clocks
        by_cases cj : J ≤ n
        · have h1 := hD.out.cell I k (by omega) (by omega)
          have h2 := hD.out.cell k J (by omega) (by omega)
          have h3 := hD.out.cell I J (by omega) (by omega)
          have h4 := hD.out.free I J (by omega) (by omega)
          have st : Hid (cbRow k I (J + 1) q = cbStep k I J p) := by show cbRow k I (J + 1) q = _; simp [cbRow, hp.out]
          generalize e1 : p I k = x at *
          generalize e2 : p k J = y at *
          generalize e3 : p I J = z at *
          have st2 : Hid (cbStep k I J p = if z ≤ dplus x y then some p else if I = J then none else some (upd p I J (dplus x y))) := by show cbStep k I J p = _; simp [cbStep, e1, e2, e3]
          have HP : Hid (∀ w, Calls Tryz.prog 90 #[.int .i64 x, .int .i64 y] w fun e w' => e = .returned (.int .i64 (dplus x y)) ∧ w' = w) := fun w => dplus_any x y w
          generalize dplus x y = s at *
          clear e1 e2 e3
          by_cases cz : z ≤ s
          · have st3 : Hid (cbRow k I (J + 1) q = some p) := by show cbRow k I (J + 1) q = _; rw [st.out, st2.out, if_pos cz]
            clear st st2
            go_wp2_with fail
            go_quiet ((go_at_call 90; exact Calls.quiet_of_same (HP.out _)))
            go_wp2_with fail
            go_roundw
            case rel => exact ⟨J + 1, p, by omega, by go_num, st3, hD.out.drewN _, below_drewN hB.out _⟩
            case measure => simp [intOf]; omega
          · by_cases ce : I = J
            · have st3 : Hid (cbAll k n (n + 1) r = none) := by
                show cbAll k n (n + 1) r = none
                refine cbAll_none (c := I + 1) (n + 1) (by omega) ?_
                simp [cbAll, hq.out]
                refine cbRow_none (c := J + 1) (n + 1) (by omega) ?_
                rw [st.out, st2.out, if_neg cz, if_pos ce]
              clear st st2
              subst ce
              go_wp2_with fail
              go_quiet ((go_at_call 90; exact Calls.quiet_of_same (HP.out _)))
              go_wp2_with fail
              go_ret
              refine ⟨?_, below_drewN hB.out _, p, hD.out.drewN _, fun s' e => ?_⟩
              · simp [st3.out]
              · rw [st3.out] at e; simp at e
            · have st3 : Hid (cbRow k I (J + 1) q = some (upd p I J s)) := by show cbRow k I (J + 1) q = _; rw [st.out, st2.out, if_neg cz, if_neg ce]
              clear st st2
              have t1 : ((I : Int) == (J : Int)) = false := by simp; omega
              go_wp2_with fail
              go_quiet ((go_at_call 90; exact Calls.quiet_of_same (HP.out _)))
              go_wp2_with fail
              go_roundw
              case rel => exact ⟨J + 1, upd p I J s, by omega, by go_num, st3, (hD.out.drewN _).set (by omega) (by omega) _, (below_drewN hB.out _).setCell (Nat.le_refl _) _⟩
              case measure => simp [intOf]; omega
        · have ej : J = n + 1 := by omega
          subst ej
          have st : Hid (cbAll k n (I + 1) r = some p) := by show cbAll k n (I + 1) r = _; simp [cbAll, hq.out, hp.out]
          go_wp2_with fail
          go_roundw
          case rel => exact ⟨I + 1, p, by omega, by go_num, st, hD, hB⟩
          case measure => simp [intOf]; omega
    · have eI : I = n + 1 := by omega
      subst eI
      go_wp2_with fail
      go_ret
      refine ⟨?_, hB.out, q, hD.out, fun s' e => ?_⟩
      · simp [hq.out]
      · rw [hq.out] at e; injection e with e; exact e.symm

/-! ### close -/
def diagOk (n : Nat) (r : Mat) : Nat → Bool
  | 0 => true
  | c + 1 => diagOk n r c && decide (1 ≤ r c c)
def clAll (n : Nat) : Nat → Mat → Option Mat
  | 0, r => some r
  | c + 1, r => (clAll n c r).bind (cbAll c n (n + 1))
def closeR (n : Nat) (r : Mat) : Option Mat := if diagOk n r (n + 1) then clAll n (n + 1) r else none
theorem clAll_none {n : Nat} {r : Mat} : ∀ {c : Nat} (d : Nat), c ≤ d → clAll n c r = none → clAll n d r = none := by
  intro c d h e
  induction d with
  | zero => obtain rfl : c = 0 := by omega
            exact e
  | succ d ih =>
    by_cases q : c = d + 1
    · subst q; exact e
    · simp [clAll, ih (by omega)]
theorem diagOk_false {n : Nat} {r : Mat} : ∀ {c : Nat} (d : Nat), c ≤ d → diagOk n r c = false → diagOk n r d = false := by
  intro c d h e
  induction d with
  | zero => obtain rfl : c = 0 := by omega
            exact e
  | succ d ih =>
    by_cases q : c = d + 1
    · subst q; exact e
    · simp [diagOk, ih (by omega)]
set_option maxHeartbeats 1000000 in
theorem close_any (b n : Nat) (r : Mat) (w : World) (h : n ≤ 8) (hD : Draft w b n r) :
    Calls Tryz.prog 63 #[.pointer (some ⟨b, 0, none⟩)] w fun e w' => e = .returned (.bool (closeR n r).isSome) ∧ Below b w w' ∧ (∃ s, Draft w' b n s ∧ ∀ s', closeR n r = some s' → s' = s) := by
  have HD := hideD hD
  clear hD
  go_enter Tryz.func63, Tryz.ntmps63
  go_wp2_with fail
  go_loopw [3] (fun s wr => ∃ (I : Nat), I ≤ n + 1 ∧ s = .int .i64 I ∧ Hid (diagOk n r I = true) ∧ Hid (Draft wr b n r) ∧ Hid (Below b w wr)) (fun s _ => n + 1 - (intOf s).toNat)
  case atStart => exact ⟨0, by omega, rfl, rfl, HD, Below.refl _ _⟩
  case round =>
    obtain ⟨I, hI, rfl, hq, hD, hB⟩ := hrel
    have hcl := hD.out.clocks
    by_cases c : I ≤ n
    · have h1 := hD.out.cell I I (by omega) (by omega)
      have st : Hid (diagOk n r (I + 1) = decide (1 ≤ r I I)) := by show diagOk n r (I + 1) = _; simp [diagOk, hq.out]
      generalize r I I = x at *
      by_cases cx : x < 1
      · have st3 : Hid (closeR n r = none) := by
          show closeR n r = none
          have e : diagOk n r (n + 1) = false := by
            refine diagOk_false (c := I + 1) (n + 1) (by omega) ?_
            rw [st.out, decide_eq_false (by omega)]
          simp [closeR, e]
        clear st
        go_wp2_with fail
        go_ret
        refine ⟨?_, hB.out, r, hD.out, fun s' e => ?_⟩
        · simp [st3.out]
        · rw [st3.out] at e; simp at e
      · have st3 : Hid (diagOk n r (I + 1) = true) := by show diagOk n r (I + 1) = true; rw [st.out, decide_eq_true (by omega)]
        clear st
        go_wp2_with fail
        go_roundw
        case rel => exact ⟨I + 1, by omega, by go_num, st3, hD, hB⟩
        case measure => simp [intOf]; omega
    · have st : Hid (closeR n r = clAll n (n + 1) r) := by
        obtain rfl : I = n + 1 := by omega
        show closeR n r = _
        simp [closeR, hq.out]
      clear hq
      go_wp2_with fail
      clear hcl
      go_loopw [4] (fun s wr => ∃ (K : Nat) (q : Mat), K ≤ n + 1 ∧ s = .int .i64 K ∧ Hid (clAll n K r = some q) ∧ Hid (Draft wr b n q) ∧ Hid (Below b w wr)) (fun s _ => n + 1 - (intOf s).toNat)
      case atStart => exact ⟨0, r, by omega, rfl, rfl, hD, hB⟩
      case round =>
        obtain ⟨K, q, hK, rfl, hq, hD, hB⟩ := hrel
        have hcl := hD.out.clocks
        by_cases c : K ≤ n
        · have H := hideD (closeBy_any b n K q wr h c hD.out)
          have st2 : Hid (clAll n (K + 1) r = cbAll K n (n + 1) q) := by show clAll n (K + 1) r = _; simp [clAll, hq.out]
          cases e : cbAll K n (n + 1) q with
          | none =>
            rw [e] at H
            have st3 : Hid (closeR n r = none) := by
              show closeR n r = none
              rw [st.out]
              exact clAll_none (c := K + 1) (n + 1) (by omega) (st2.out.trans e)
            clear st st2
            go_wp2_with fail
            refine H.out.mono ?_
            rintro e' w1 ⟨rfl, hb, s, hs, -⟩
            go_wp2_with fail
            go_ret
            refine ⟨?_, hB.out.trans hb, s, hs, fun s' e => ?_⟩
            · simp [st3.out]
            · rw [st3.out] at e; simp at e
          | some p =>
            rw [e] at H
            have st3 : Hid (clAll n (K + 1) r = some p) := st2.out.trans e
            clear st2
            go_wp2_with fail
            refine H.out.mono ?_
            rintro e' w1 ⟨rfl, hb, s, hs, hp⟩
            obtain rfl := hp p rfl
            have hs' := hideD hs
            have hb' := hideD (hB.out.trans hb)
            clear hs hb hp
            go_wp2_with fail
            go_roundw
            case rel => exact ⟨K + 1, p, by omega, by go_num, st3, hs', hb'⟩
            case measure => simp [intOf]; omega
        · have eK : K = n + 1 := by omega
          subst eK
          have st3 : Hid (closeR n r = some q) := st.out.trans hq.out
          clear st hq
          go_wp2_with fail
          go_ret
          refine ⟨?_, hB.out, q, hD.out, fun s' e => ?_⟩
          · simp [st3.out]
          · rw [st3.out] at e; injection e with e; exact e.symm
end Go.Proofs.YtdkolgndebkloaaGreatDoor

/-
  A zone in memory; the contracts of none, used, at, hollow, zone.
-/
namespace Go.Proofs.YtdkolgndebkloaaGreatDoor
open Go.RowKit
set_option linter.unusedVariables false
abbrev Row := Nat → Int
/-- In block b there lies a zone of n clocks with these cells (the places behind the used ones hold 0). -/
structure ZoneAt (w : World) (b n : Nat) (c : Row) : Prop where
  clocks : w.cell? ⟨b, 0, none⟩ = some (.int .i64 n)
  cell : ∀ k, k < 81 → w.cell? ⟨b, 1 + k, none⟩ = some (.int .i32 (c k))
  free : ∀ k, k < 81 → w.frozen? ⟨b, 1 + k, none⟩ = false
def updR (c : Row) (k : Nat) (v : Int) : Row := fun a => if a = k then v else c a
theorem ZoneAt.set {w : World} {b n : Nat} {c : Row} (h : ZoneAt w b n c) {k : Nat} (hk : k < 81) (v : Int) : ZoneAt (w.setCell ⟨b, 1 + k, none⟩ (.int .i32 v)) b n (updR c k v) := by
  refine ⟨?_, ?_, ?_⟩
  · rw [World.cell?_setCell_other _ _ _ _ (by intro e; injection e; omega)]
    exact h.clocks
  · intro a ha
    by_cases e : a = k
    · subst e
      rw [World.cell?_setCell_same _ _ _ (h.cell a ha)]
      simp [updR]
    · rw [World.cell?_setCell_other _ _ _ _ (by intro e; injection e; omega), h.cell a ha]
      simp [updR, e]
  · intro a ha
    rw [World.frozen?_setCell]
    exact h.free a ha
theorem ZoneAt.drewN {w : World} {b n : Nat} {c : Row} (h : ZoneAt w b n c) (k : Nat) : ZoneAt (w.drewN k) b n c := ⟨h.clocks, h.cell, h.free⟩
theorem ZoneAt.drew {w : World} {b n : Nat} {c : Row} (h : ZoneAt w b n c) : ZoneAt w.drew b n c := ⟨h.clocks, h.cell, h.free⟩
theorem ZoneAt.lt {w : World} {b n : Nat} {c : Row} (h : ZoneAt w b n c) : b < w.heap.size := World.block_lt_of_cell? _ _ h.clocks
theorem ZoneAt.later {w w' : World} {b n : Nat} {c : Row} (h : ZoneAt w b n c) {B : Nat} (hb : Below B w w') (hB : b < B) : ZoneAt w' b n c :=
  ⟨(hb.cell hB).trans h.clocks, fun k hk => (hb.cell (p := ⟨b, 1 + k, none⟩) hB).trans (h.cell k hk), fun k hk => (hb.frozen (p := ⟨b, 1 + k, none⟩) hB).trans (h.free k hk)⟩
theorem ZoneAt.past {w w' : World} {b n : Nat} {c : Row} (h : ZoneAt w b n c) (hb : Below w.heap.size w w') : ZoneAt w' b n c := h.later hb h.lt

def y82 : Array Value := #[.int .i64 0] ++ Array.replicate 81 (.int .i32 0)
theorem zeroM (w : World) : Sem.run Tryz.prog (zeroValue 59) w = .ok (.agg y82) w := by kernel_rfl
theorem zeroZ (w : World) : Sem.run Tryz.prog (zeroValue 61) w = .ok (.agg y82) w := by kernel_rfl
theorem y82_ne : (y82 = #[]) = False := by simp [y82]
theorem y82_size : y82.size = 82 := by simp [y82]
theorem new_zone (w : World) (n : Nat) (T : TypeId) : ZoneAt (w.alloc (.cells (y82.setIfInBounds 0 (.int .i64 n)) T)) w.heap.size n (fun _ => 0) := by
  refine ⟨?_, ?_, ?_⟩
  · rw [World.cell?_alloc_at _ _ _ _ rfl]
    simp [y82]
  · intro k hk
    rw [World.cell?_alloc_at _ _ _ _ rfl, Array.getElem?_setIfInBounds_ne (by omega)]
    rw [y82, Array.getElem?_append_right (by simp), Array.getElem?_replicate]
    simp
    omega
  · intro k hk
    rw [World.frozen?_alloc_at _ _ _ _ rfl]
theorem build82 (v : Value) : Array.foldl (fun cs x => cs.setIfInBounds x.snd x.fst) y82 (y82.setIfInBounds 0 v).zipIdx 0 82 = y82.setIfInBounds 0 v := by kernel_rfl
theorem none_any (n : Nat) (w : World) :
    Calls Tryz.prog 49 #[.int .i64 n] w fun e w' => e = .returned (.pointer (some ⟨w.heap.size, 0, none⟩)) ∧ ZoneAt w' w.heap.size n (fun _ => 0) ∧ Below w.heap.size w w' ∧ w'.heap.size = w.heap.size + 1 := by
  have Z1 := fun w => zeroM w
  have Z2 := fun w => zeroZ w
  have Zn := y82_ne
  have Zs := y82_size
  go_enter Tryz.func49, Tryz.ntmps49
  go_wp2
  go_ret
  rw [build82]
  exact ⟨rfl, new_zone w n _, below_one _ _, by simp⟩
end Go.Proofs.YtdkolgndebkloaaGreatDoor

/-
  The contracts of used, at, hollow, nowhereLess, zone.
-/
namespace Go.Proofs.YtdkolgndebkloaaGreatDoor
open Go.RowKit
set_option linter.unusedVariables false
set_option maxRecDepth 100000
theorem used_raw (b : Nat) (n s : Int) (q : Nat) (w : World) (hc : w.cell? ⟨b, 0, none⟩ = some (.int .i64 n)) (e : IntKind.i64.wrap (s * s) = (q : Int)) (q1 : q ≤ 81)
    (HS : Hid (∀ w, Calls Tryz.prog 40 #[.agg #[.int .i64 n]] w fun e w' => e = .returned (.int .i64 s) ∧ Below w.heap.size w w')) :
    Calls Tryz.prog 29 #[.pointer (some ⟨b, 0, none⟩)] w fun e w' => e = .returned (.slice (some ⟨b, 1, none⟩) q 81) ∧ Below w.heap.size w w' := by
  have AL : Tryz.prog.arrayLen 57 = 81 := by kernel_rfl
  have q2 : (0 : Int) ≤ (q : Int) := by omega
  have q3 : (q : Int) ≤ 81 := by omega
  go_enter Tryz.func29, Tryz.ntmps29
  go_wp2_with fail
  go_region_held3 (fun w' => Below w.heap.size w w' ∧ w'.cell? ⟨b, 0, none⟩ = some (.int .i64 n))
    (first | exact ⟨by first | assumption | exact Below.refl _ _ | exact Below.drew (Below.refl _ _), by first | assumption | simp [go_sem, *]⟩ | go_keep)
    (first | (go_at_call 40; refine (HS.out _).mono ?_; rintro e' w' ⟨rfl, hb⟩; have s0 := kc ⟨b, 0, none⟩ (.int .i64 n) hb (by first | assumption | simp [go_sem, *]); have s1 := beyondD (w := w) (by first | assumption | exact Below.refl _ _ | exact Below.drew (Below.refl _ _)) hb))
  all_goals
    go_wp2
    go_ret
    exact ⟨rfl, by assumption⟩
theorem used_any (b n : Nat) (w : World) (h : n ≤ 8) (hc : w.cell? ⟨b, 0, none⟩ = some (.int .i64 n)) :
    Calls Tryz.prog 29 #[.pointer (some ⟨b, 0, none⟩)] w fun e w' => e = .returned (.slice (some ⟨b, 1, none⟩) ((n + 1) * (n + 1)) 81) ∧ Below w.heap.size w w' := by
  have q : (n + 1) * (n + 1) ≤ 81 := Nat.mul_le_mul (show n + 1 ≤ 9 by omega) (show n + 1 ≤ 9 by omega)
  refine used_raw b n ((n + 1 : Nat) : Int) _ w hc ?_ q (fun w => side_any n w h)
  rw [← Int.natCast_mul]
  generalize (n + 1) * (n + 1) = z at *
  rw [IntKind.wrap_i64]
  omega
theorem at_raw (b k : Nat) (n s i j v : Int) (w : World) (hc : w.cell? ⟨b, 0, none⟩ = some (.int .i64 n)) (hv : w.cell? ⟨b, 1 + k, none⟩ = some (.int .i32 v)) (hk : k < 81)
    (e : IntKind.i64.wrap (IntKind.i64.wrap (i * s) + j) = (k : Int))
    (HS : Hid (∀ w, Calls Tryz.prog 40 #[.agg #[.int .i64 n]] w fun e w' => e = .returned (.int .i64 s) ∧ Below w.heap.size w w')) :
    Calls Tryz.prog 59 #[.pointer (some ⟨b, 0, none⟩), .int .i64 i, .int .i64 j] w fun e w' => e = .returned (.int .i32 v) ∧ Below w.heap.size w w' := by
  have k0 : (0 : Int) ≤ (k : Int) := by omega
  have k1 : (k : Int) < 81 := by omega
  go_enter Tryz.func59, Tryz.ntmps59
  go_wp2_with fail
  go_region_held3 (fun w' => Below w.heap.size w w' ∧ w'.cell? ⟨b, 0, none⟩ = some (.int .i64 n) ∧ w'.cell? ⟨b, 1 + k, none⟩ = some (.int .i32 v))
    (first | exact ⟨by first | assumption | exact Below.refl _ _ | exact Below.drew (Below.refl _ _), by first | assumption | simp [go_sem, *], by first | assumption | simp [go_sem, *]⟩ | go_keep)
    (first | (go_at_call 40; refine (HS.out _).mono ?_; rintro e' w' ⟨rfl, hb⟩; have s0 := kc ⟨b, 0, none⟩ (.int .i64 n) hb (by first | assumption | simp [go_sem, *]); have s2 := kc ⟨b, 1 + k, none⟩ (.int .i32 v) hb (by first | assumption | simp [go_sem, *]); have s1 := beyondD (w := w) (by first | assumption | exact Below.refl _ _ | exact Below.drew (Below.refl _ _)) hb))
  all_goals
    go_wp2
    go_ret
    exact ⟨rfl, by assumption⟩
theorem at_any (b n i j : Nat) (c : Row) (w : World) (h : n ≤ 8) (hi : i ≤ n) (hj : j ≤ n) (hz : ZoneAt w b n c) :
    Calls Tryz.prog 59 #[.pointer (some ⟨b, 0, none⟩), .int .i64 i, .int .i64 j] w fun e w' => e = .returned (.int .i32 (c (i * (n + 1) + j))) ∧ Below w.heap.size w w' := by
  have hk : i * (n + 1) + j < 81 := by
    have : i * (n + 1) ≤ 8 * 9 := Nat.mul_le_mul (by omega) (by omega)
    omega
  refine at_raw b (i * (n + 1) + j) n ((n + 1 : Nat) : Int) i j _ w hz.clocks (hz.cell _ hk) hk ?_ (fun w => side_any n w h)
  rw [← Int.natCast_mul]
  generalize i * (n + 1) = z at *
  rw [IntKind.wrap_i64, IntKind.wrap_i64]
  omega
theorem hollow_raw (b : Nat) (v : Int) (w : World) (H : Hid (∀ w', Below w.heap.size w w' → Calls Tryz.prog 59 #[.pointer (some ⟨b, 0, none⟩), .int .i64 0, .int .i64 0] w' fun e w'' => e = .returned (.int .i32 v) ∧ Below w'.heap.size w' w'')) :
    Calls Tryz.prog 27 #[.pointer (some ⟨b, 0, none⟩)] w fun e w' => e = .returned (.bool (decide (v < 1))) ∧ Below w.heap.size w w' := by
  go_enter Tryz.func27, Tryz.ntmps27
  go_wp2_with fail
  refine (H.out _ (Below.refl _ _)).mono ?_
  rintro e w' ⟨rfl, hb⟩
  go_wp2
  go_ret
  exact ⟨rfl, hb⟩
theorem hollow_any (b n : Nat) (c : Row) (w : World) (h : n ≤ 8) (hz : ZoneAt w b n c) :
    Calls Tryz.prog 27 #[.pointer (some ⟨b, 0, none⟩)] w fun e w' => e = .returned (.bool (decide (c 0 < 1))) ∧ Below w.heap.size w w' := by
  refine hollow_raw b (c 0) w fun w' hb => ?_
  have := at_any b n 0 0 c w' h (by omega) (by omega) (hz.past hb)
  simpa using this
/-! ### nowhereLess -/
def nless (c d : Row) : Nat → Bool
  | 0 => true
  | k + 1 => nless c d k && decide (d k ≤ c k)
theorem nless_false {c d : Row} : ∀ {k : Nat} (m : Nat), k ≤ m → nless c d k = false → nless c d m = false := by
  intro k m h e
  induction m with
  | zero => obtain rfl : k = 0 := by omega
            exact e
  | succ m ih =>
    by_cases q : k = m + 1
    · subst q; exact e
    · simp [nless, ih (by omega)]
set_option maxHeartbeats 1000000 in
theorem nless_any (b o n : Nat) (c d : Row) (w : World) (h : n ≤ 8) (hz : ZoneAt w b n c) (hy : ZoneAt w o n d) :
    Calls Tryz.prog 57 #[.pointer (some ⟨b, 0, none⟩), .pointer (some ⟨o, 0, none⟩)] w fun e w' => e = .returned (.bool (nless c d ((n + 1) * (n + 1)))) ∧ Below w.heap.size w w' := by
  have HU := hideD (used_any b n w h hz.clocks)
  have hm : (n + 1) * (n + 1) ≤ 81 := Nat.mul_le_mul (show n + 1 ≤ 9 by omega) (show n + 1 ≤ 9 by omega)
  generalize (n + 1) * (n + 1) = m at *
  have hm1 : (m : Int) ≤ 81 := by omega
  have HZ := hideD hz
  have HY := hideD hy
  clear hz hy
  go_enter Tryz.func57, Tryz.ntmps57
  go_wp2_with fail
  refine HU.out.mono ?_
  rintro e w1 ⟨rfl, hb⟩
  have hZ := hideD (HZ.out.past hb)
  have hY := hideD (HY.out.past hb)
  have hB := hideD hb
  clear HZ HY hb HU
  go_wp2_with fail
  go_loopw [10] (fun s wr => ∃ (I : Nat), I ≤ m ∧ s = .int .i64 I ∧ Hid (nless c d I = true) ∧ Hid (ZoneAt wr b n c) ∧ Hid (ZoneAt wr o n d) ∧ Hid (Below w.heap.size w wr)) (fun s _ => m - (intOf s).toNat)
  case atStart => exact ⟨0, by omega, rfl, rfl, hZ, hY, hB⟩
  case round =>
    obtain ⟨I, hI, rfl, hq, hZ, hY, hB⟩ := hrel
    by_cases ci : I < m
    · have h1 := hZ.out.cell I (by omega)
      have h2 := hY.out.cell I (by omega)
      have st : Hid (nless c d (I + 1) = decide (d I ≤ c I)) := by show nless c d (I + 1) = _; simp [nless, hq.out]
      have i0 : (0 : Int) ≤ (I : Int) := by omega
      have i1 : (I : Int) < 81 := by omega
      generalize c I = x at *
      generalize d I = y at *
      by_cases cx : x < y
      · have st3 : Hid (nless c d m = false) := by
          show nless c d m = false
          refine nless_false (k := I + 1) m (by omega) ?_
          rw [st.out, decide_eq_false (by omega)]
        clear st hq
        go_wp2_with fail
        go_ret
        exact ⟨by rw [st3.out]; rfl, hB.out⟩
      · have st3 : Hid (nless c d (I + 1) = true) := by show nless c d (I + 1) = true; rw [st.out, decide_eq_true (by omega)]
        clear st hq
        go_wp2_with fail
        go_roundw
        case rel => exact ⟨I + 1, by omega, by go_num, st3, hZ, hY, hB⟩
        case measure => simp [intOf]; omega
    · have st : Hid (nless c d m = true) := by
        obtain rfl : I = m := by omega
        exact hq.out
      clear hq
      go_wp2_with fail
      go_ret
      exact ⟨by rw [st.out]; rfl, hB.out⟩

/-! ### zone -/
/-- The cells of a closed draft, row by row. -/
def flat (n : Nat) (r : Mat) : Row := fun k => r (k / (n + 1)) (k % (n + 1))
def cellsUpto (n : Nat) (r : Mat) (m : Nat) : Row := fun k => if k < m then narB (flat n r k) else 0
def narAll (n : Nat) (r : Mat) : Nat → Bool
  | 0 => true
  | k + 1 => narAll n r k && narOk (flat n r k)
theorem narAll_false {n : Nat} {r : Mat} : ∀ {k : Nat} (m : Nat), k ≤ m → narAll n r k = false → narAll n r m = false := by
  intro k m h e
  induction m with
  | zero => obtain rfl : k = 0 := by omega
            exact e
  | succ m ih =>
    by_cases q : k = m + 1
    · subst q; exact e
    · simp [narAll, ih (by omega)]
/-- What becomes of a draft: none: nothing (ErrBound); some cells: a zone. -/
def zoneR (n : Nat) (r : Mat) : Option Row :=
  match closeR n r with
  | none => some (fun _ => 0)
  | some p => if narAll n p ((n + 1) * (n + 1)) then some (cellsUpto n p ((n + 1) * (n + 1))) else none
theorem cells_next (n : Nat) (r : Mat) (m : Nat) : updR (cellsUpto n r m) m (narB (flat n r m)) = cellsUpto n r (m + 1) := by
  funext a
  unfold updR cellsUpto
  by_cases e : a = m
  · subst e; simp
  · rw [if_neg e]
    congr 1
    apply propext
    omega
abbrev zoneRes (b : Nat) : Option Row → Value
  | some _ => .tuple #[.pointer (some ⟨b, 0, none⟩), .int .i64 0]
  | none => .tuple #[.pointer none, .int .i64 10]
theorem zone_none (b n : Nat) (r : Mat) (w : World) (h : n ≤ 8) (hD : Draft w b n r) (e : closeR n r = none) :
    Calls Tryz.prog 43 #[.pointer (some ⟨b, 0, none⟩)] w fun e w' => ∃ b', w.heap.size ≤ b' ∧ e = .returned (.tuple #[.pointer (some ⟨b', 0, none⟩), .int .i64 0]) ∧ ZoneAt w' b' n (fun _ => 0) ∧ Below b w w' := by
  have HC := hideD (close_any b n r w h hD)
  rw [e] at HC
  go_enter Tryz.func43, Tryz.ntmps43
  go_wp2_with fail
  refine HC.out.mono ?_
  rintro e' w1 ⟨rfl, hb, s, hs, -⟩
  have hcl := hs.clocks
  go_wp2_with fail
  refine (none_any n _).mono ?_
  rintro e' w2 ⟨rfl, hz, hb2, hs2⟩
  go_wp2_with fail
  refine bodyPost_ret (v := .tuple #[.pointer (some ⟨w1.heap.size, 0, none⟩), .int .i64 0]) (by simp [results, Tryz.results43, go_sem]) rfl ⟨w1.heap.size, hb.size, rfl, hz, hb.trans (hb2.mono (Nat.le_of_lt hs.lt))⟩
end Go.Proofs.YtdkolgndebkloaaGreatDoor

/-
  The contract of zone: what becomes of a draft.
-/
namespace Go.Proofs.YtdkolgndebkloaaGreatDoor
open Go.RowKit
set_option linter.unusedVariables false
set_option maxRecDepth 100000
set_option maxHeartbeats 1000000 in
theorem zone_some (b n : Nat) (r p : Mat) (w : World) (h : n ≤ 8) (hD : Draft w b n r) (e : closeR n r = some p) :
    Calls Tryz.prog 43 #[.pointer (some ⟨b, 0, none⟩)] w fun e w' => Below b w w' ∧
      ((narAll n p ((n + 1) * (n + 1)) = false ∧ e = .returned (.tuple #[.pointer none, .int .i64 10])) ∨
       (narAll n p ((n + 1) * (n + 1)) = true ∧ ∃ b', w.heap.size ≤ b' ∧ e = .returned (.tuple #[.pointer (some ⟨b', 0, none⟩), .int .i64 0]) ∧ ZoneAt w' b' n (cellsUpto n p ((n + 1) * (n + 1))))) := by
  have HC := hideD (close_any b n r w h hD)
  rw [e] at HC
  have hm : (n + 1) * (n + 1) ≤ 81 := Nat.mul_le_mul (show n + 1 ≤ 9 by omega) (show n + 1 ≤ 9 by omega)
  have HU : Hid (∀ bz w, w.cell? ⟨bz, 0, none⟩ = some (.int .i64 n) → Calls Tryz.prog 29 #[.pointer (some ⟨bz, 0, none⟩)] w fun e w' => e = .returned (.slice (some ⟨bz, 1, none⟩) ((n + 1) * (n + 1)) 81) ∧ Below w.heap.size w w') := fun bz w hz => used_any bz n w h hz
  have HQ : Hid (∀ k, k < (n + 1) * (n + 1) → k / (n + 1) ≤ n ∧ k % (n + 1) ≤ n) := fun k hk => ⟨by have := Nat.div_lt_of_lt_mul hk; omega, by have := Nat.mod_lt k (show 0 < n + 1 by omega); omega⟩
  generalize (n + 1) * (n + 1) = m at *
  have hm1 : (m : Int) ≤ 81 := by omega
  go_enter Tryz.func43, Tryz.ntmps43
  go_wp2_with fail
  refine HC.out.mono ?_
  rintro e' w1 ⟨rfl, hb, s, hs, hp⟩
  obtain rfl := hp p rfl
  have hcl := hs.clocks
  have hB1 := hideD hb
  have hD1 := hideD hs
  clear hb hs hp HC hD
  go_wp2_with fail
  refine (none_any n _).mono ?_
  rintro e' w2 ⟨rfl, hz, hb2, hs2⟩
  have hB2 := hideD (hB1.out.trans (hb2.mono (Nat.le_of_lt hD1.out.lt)))
  have hD2 := hideD (hD1.out.later hb2 hD1.out.lt)
  have hl := hideD hD1.out.lt
  have hsz := hideD hB1.out.size
  generalize w1.heap.size = bz at *
  have hZ := hideD hz
  have hcz := hz.clocks
  clear hz hb2 hB1 hD1 hs2
  go_wp2_with fail
  refine (HU.out _ _ hcz).mono ?_
  rintro e' w3 ⟨rfl, hb⟩
  have hZ3 := hideD (hZ.out.past hb)
  have hD3 := hideD (hD2.out.later hb hD2.out.lt)
  have hB3 := hideD (hB2.out.trans (hb.mono (Nat.le_of_lt hD2.out.lt)))
  clear hb hZ hD2 hB2 hcz
  go_wp2_with fail
  go_loopw [30] (fun s wr => ∃ (K : Nat), K ≤ m ∧ s = .int .i64 K ∧ Hid (narAll n p K = true) ∧ Hid (ZoneAt wr bz n (cellsUpto n p K)) ∧ Hid (Draft wr b n p) ∧ Hid (Below b w wr)) (fun s _ => m - (intOf s).toNat)
  case atStart => exact ⟨0, by omega, rfl, rfl, hZ3, hD3, hB3⟩
  case round =>
    obtain ⟨K, hK, rfl, hq, hZ, hD, hB⟩ := hrel
    clear hZ3 hD3 hB3
    by_cases ck : K < m
    · have HP : Hid (∀ w, Calls Tryz.prog 30 #[.agg #[.int .i64 n], .int .i64 K] w fun e w' => e = .returned (.tuple #[.int .i64 ((K / (n + 1) : Nat) : Int), .int .i64 ((K % (n + 1) : Nat) : Int)]) ∧ Below w.heap.size w w') := fun w => place_any n K w h (by omega)
      obtain ⟨i1, j1⟩ := HQ.out K ck
      have st : Hid (narAll n p (K + 1) = narOk (p (K / (n + 1)) (K % (n + 1)))) := by show narAll n p (K + 1) = _; simp [narAll, hq.out, flat]
      have nx := hideD (cells_next n p K)
      have nx : Hid (updR (cellsUpto n p K) K (narB (p (K / (n + 1)) (K % (n + 1)))) = cellsUpto n p (K + 1)) := nx
      generalize K / (n + 1) = i at *
      generalize K % (n + 1) = j at *
      have hcz := hZ.out.clocks
      have k0 : (0 : Int) ≤ (K : Int) := by omega
      have k1 : (K : Int) < 81 := by omega
      go_wp2_with fail
      refine (HP.out _).mono ?_
      rintro e' w4 ⟨rfl, hb⟩
      have hZ4 := hideD (hZ.out.past hb)
      have hD4 := hideD (hD.out.later hb hD.out.lt)
      have hB4 := hideD (hB.out.trans (hb.mono (Nat.le_of_lt hD.out.lt)))
      have h1 := hD4.out.cell i j (by omega) (by omega)
      have h2 := hZ4.out.cell K (by omega)
      have h3 := hZ4.out.free K (by omega)
      clear hb hZ hD hB hcz
      have HN : Hid (∀ w, Calls Tryz.prog 64 #[.int .i64 (p i j)] w fun e w' => e = .returned (.tuple #[.int .i32 (narB (p i j)), .bool (narOk (p i j))]) ∧ w' = w) := fun w => narrow_dbm _ w
      generalize p i j = x at *
      generalize narB x = y at *
      cases eo : narOk x with
      | false =>
        rw [eo] at HN st
        have st3 : Hid (narAll n p m = false) := narAll_false (k := K + 1) m (by omega) st.out
        go_wp2_with fail
        refine (HN.out _).mono ?_
        rintro e' w5 ⟨rfl, rfl⟩
        go_wp2_with fail
        refine bodyPost_ret (v := .tuple #[.pointer none, .int .i64 10]) (by simp [results, Tryz.results43, go_sem]) rfl ⟨hB4.out, .inl ⟨st3.out, rfl⟩⟩
      | true =>
        rw [eo] at HN st
        go_wp2_with fail
        refine (HN.out _).mono ?_
        rintro e' w5 ⟨rfl, rfl⟩
        go_wp2_with fail
        go_roundw
        case rel => exact ⟨K + 1, by omega, by go_num, st, by rw [← nx.out]; exact hZ4.out.set (by omega) _, hD4.out.later ((Below.refl bz _).setCell (Nat.le_refl _) _) hl.out, hB4.out.setCell (Nat.le_of_lt hl.out) _⟩
        case measure => simp [intOf]; omega
    · have st : Hid (K = m) := by show K = m; omega
      have hq' : Hid (narAll n p m = true) := by have e := st.out; subst e; exact hq
      have hZ' : Hid (ZoneAt wr bz n (cellsUpto n p m)) := by have e := st.out; subst e; exact hZ
      go_wp2_with fail
      refine bodyPost_ret (v := .tuple #[.pointer (some ⟨bz, 0, none⟩), .int .i64 0]) (by simp [results, Tryz.results43, go_sem]) rfl ⟨hB.out, .inr ⟨hq'.out, bz, hsz.out, rfl, hZ'.out⟩⟩
/-- What becomes of a draft. -/
def ZoneOut (w' : World) (B n : Nat) (e : Ending) : Option Row → Prop
  | none => e = .returned (.tuple #[.pointer none, .int .i64 10])
  | some c => ∃ b', B ≤ b' ∧ e = .returned (.tuple #[.pointer (some ⟨b', 0, none⟩), .int .i64 0]) ∧ ZoneAt w' b' n c
theorem zone_any (b n : Nat) (r : Mat) (w : World) (h : n ≤ 8) (hD : Draft w b n r) :
    Calls Tryz.prog 43 #[.pointer (some ⟨b, 0, none⟩)] w fun e w' => ZoneOut w' w.heap.size n e (zoneR n r) ∧ Below b w w' := by
  cases e : closeR n r with
  | none =>
    refine (zone_none b n r w h hD e).mono ?_
    rintro e' w' ⟨b', hb, rfl, hz, hB⟩
    have ez : zoneR n r = some (fun _ => 0) := by simp [zoneR, e]
    rw [ez]
    exact ⟨⟨b', hb, rfl, hz⟩, hB⟩
  | some p =>
    refine (zone_some b n r p w h hD e).mono ?_
    rintro e' w' ⟨hB, ⟨hn, rfl⟩ | ⟨hn, b', hb, rfl, hz⟩⟩
    · have ez : zoneR n r = none := by simp [zoneR, e, hn]
      rw [ez]
      exact ⟨rfl, hB⟩
    · have ez : zoneR n r = some (cellsUpto n p ((n + 1) * (n + 1))) := by simp [zoneR, e, hn]
      rw [ez]
      exact ⟨⟨b', hb, rfl, hz⟩, hB⟩
end Go.Proofs.YtdkolgndebkloaaGreatDoor

/-
  The contract of dbm.Of.
-/
namespace Go.Proofs.YtdkolgndebkloaaGreatDoor
open Go.RowKit
set_option linter.unusedVariables false
set_option maxRecDepth 100000
def tg (r : Mat) (i j : Nat) (x : Int) : Mat := if x = 2147483647 then r else upd r i j (min (r i j) x)
def tgAll (n : Nat) (l : List Int) : Nat → Mat → Mat
  | 0, r => r
  | k + 1, r => tg (tgAll n l k r) (k / (n + 1)) (k % (n + 1)) (l.getD k 0)
def allRight (l : List Int) : Nat → Bool
  | 0 => true
  | k + 1 => allRight l k && rightB (l.getD k 0)
theorem allRight_false {l : List Int} : ∀ {k : Nat} (m : Nat), k ≤ m → allRight l k = false → allRight l m = false := by
  intro k m h e
  induction m with
  | zero => obtain rfl : k = 0 := by omega
            exact e
  | succ m ih =>
    by_cases q : k = m + 1
    · subst q; exact e
    · simp [allRight, ih (by omega)]
theorem tighten_any (b n i j : Nat) (r : Mat) (x : Int) (w : World) (hD : Draft w b n r) (i1 : i ≤ 8) (j1 : j ≤ 8) (x0 : -2147483648 ≤ x) (x1 : x ≤ 2147483647) :
    Calls Tryz.prog 42 #[.pointer (some ⟨b, 0, none⟩), .int .i64 i, .int .i64 j, .int .i32 x] w fun e w' => e = .returned (.tuple #[]) ∧ Draft w' b n (tg r i j x) ∧ Below b w w' := by
  by_cases hx : x = 2147483647
  · subst hx
    refine (tighten_inf _ _ _ w).mono ?_
    rintro e w' ⟨rfl, rfl⟩
    exact ⟨rfl, by simpa [tg] using hD, Below.refl _ _⟩
  · refine (tighten_fin b i j x (r i j) w i1 j1 (by simpa using hx) x0 x1 (hD.cell i j i1 j1) (hD.free i j i1 j1)).mono ?_
    rintro e w' ⟨rfl, rfl⟩
    refine ⟨rfl, ?_, Below.drew (Below.setCell (p := at9 b i j) (Below.refl b w) (Nat.le_refl _) _)⟩
    simp only [tg, if_neg hx]
    exact (hD.set i1 j1 _).drew
/-- A row of bounds in memory. -/
def RowAt (w : World) (b off : Nat) (l : List Int) : Prop := ∀ j, j < l.length → w.cell? ⟨b, off + j, none⟩ = some (.int .i32 (l.getD j 0))
theorem RowAt.later {w w' : World} {b off B : Nat} {l : List Int} (h : RowAt w b off l) (hb : Below B w w') (hB : b < B) : RowAt w' b off l := fun j hj => (hb.cell (p := ⟨b, off + j, none⟩) hB).trans (h j hj)
abbrev errOf (e : Int) : Ending := .returned (.tuple #[.pointer none, .int .i64 e])
theorem of_clock (n : Int) (v : Value) (w : World) (h : ¬ (0 ≤ n ∧ n ≤ 8)) :
    Calls Tryz.prog 17 #[.int .i64 n, v] w fun e w' => e = errOf 12 ∧ w' = w := by
  have H : Hid (Calls Tryz.prog 38 #[.int .i64 n] w fun e w' => e = .returned (.bool false) ∧ w' = w) := by
    have := mayHave_any n w
    rw [decide_eq_false h] at this
    exact this
  clear h
  go_enter Tryz.func17, Tryz.ntmps17
  go_wp2_with fail
  refine H.out.mono ?_
  rintro e w' ⟨rfl, rfl⟩
  go_wp2_with fail
  refine bodyPost_ret (v := .tuple #[.pointer none, .int .i64 12]) (by simp [results, Tryz.results17, go_sem]) rfl ⟨rfl, rfl⟩
theorem mayYes (n : Nat) (w : World) (h : n ≤ 8) : Calls Tryz.prog 38 #[.int .i64 n] w fun e w' => e = .returned (.bool true) ∧ w' = w := by
  have := mayHave_any n w
  rw [decide_eq_true ⟨by omega, by omega⟩] at this
  exact this
theorem of_long (n len cap : Nat) (a : Option Addr) (w : World) (h : n ≤ 8) (hl : ¬ len = (n + 1) * (n + 1)) (hbig : len ≤ 9223372036854775807) :
    Calls Tryz.prog 17 #[.int .i64 n, .slice a len cap] w fun e w' => e = errOf 6 ∧ Below w.heap.size w w' := by
  have H := hideD (mayYes n w h)
  have HD := hideD (draftOf_any n w h)
  have q : (n + 1) * (n + 1) ≤ 81 := Nat.mul_le_mul (show n + 1 ≤ 9 by omega) (show n + 1 ≤ 9 by omega)
  have HS : Hid (∀ w, Calls Tryz.prog 40 #[.agg #[.int .i64 n]] w fun e w' => e = .returned (.int .i64 ((n + 1 : Nat) : Int)) ∧ Below w.heap.size w w') := fun w => side_any n w h
  have e1 : IntKind.i64.wrap (((n + 1 : Nat) : Int) * ((n + 1 : Nat) : Int)) = (((n + 1) * (n + 1) : Nat) : Int) := by
    rw [← Int.natCast_mul]
    generalize (n + 1) * (n + 1) = z at *
    rw [IntKind.wrap_i64]
    omega
  generalize (n + 1) * (n + 1) = m at *
  generalize ((n + 1 : Nat) : Int) = s at *
  have hl1 : ((len : Int) != (m : Int)) = true := by simp; omega
  go_enter Tryz.func17, Tryz.ntmps17
  go_wp2_with fail
  refine H.out.mono ?_
  rintro e w' ⟨rfl, rfl⟩
  go_wp2_with fail
  refine HD.out.mono ?_
  rintro e w1 ⟨rfl, hd, hb⟩
  have hc := hd.clocks
  have HD1 := hideD hd
  have HB1 := hideD hb
  clear hd hb H HD
  go_upto_region 4 with (fail)
  go_cut [29] (fun t w2 => t = .bool (true) ∧ Hid (Below w1.heap.size w1 w2))
  case first =>
    go_region_held3 (fun w2 => Below w1.heap.size w1 w2 ∧ w2.cell? ⟨w'.heap.size, 0, none⟩ = some (.int .i64 n))
      (first | exact ⟨by first | assumption | exact Below.refl _ _ | exact Below.drew (Below.refl _ _), by first | assumption | simp [go_sem, *]⟩ | go_keep)
      (first | (go_at_call 40; refine (HS.out _).mono ?_; rintro e' w2 ⟨rfl, hb⟩; have s0 := kc ⟨w'.heap.size, 0, none⟩ (.int .i64 n) hb (by first | assumption | simp [go_sem, *]); have s1 := beyondD (w := w1) (by first | assumption | exact Below.refl _ _ | exact Below.drew (Below.refl _ _)) hb))
    all_goals go_wp2_with fail
    all_goals go_meet
    all_goals exact ⟨by first | rfl | simp [*], by assumption⟩
  case rest =>
    obtain ⟨rfl, hb2⟩ := hcut
    go_wp2_with fail
    refine bodyPost_ret (v := .tuple #[.pointer none, .int .i64 6]) (by simp [results, Tryz.results17, go_sem]) rfl ⟨rfl, HB1.out.trans (hb2.out.mono HB1.out.size)⟩
set_option maxHeartbeats 1000000 in
theorem of_main (n cb off cap : Nat) (l : List Int) (w : World) (h : n ≤ 8) (hlen : l.length = (n + 1) * (n + 1)) (hR : RowAt w cb off l) (hi : ∀ j, j < l.length → -2147483648 ≤ l.getD j 0 ∧ l.getD j 0 ≤ 2147483647) :
    Calls Tryz.prog 17 #[.int .i64 n, .slice (some ⟨cb, off, none⟩) l.length cap] w fun e w' => Below w.heap.size w w' ∧
      ((allRight l l.length = false ∧ e = errOf 7) ∨ (allRight l l.length = true ∧ ZoneOut w' w.heap.size n e (zoneR n (tgAll n l l.length (startR n (n + 1) 0))))) := by
  have hcb : cb < w.heap.size := World.block_lt_of_cell? _ _ (hR 0 (by rw [hlen]; exact Nat.mul_pos (by omega) (by omega)))
  have H := hideD (mayYes n w h)
  have HD := hideD (draftOf_any n w h)
  have q : (n + 1) * (n + 1) ≤ 81 := Nat.mul_le_mul (show n + 1 ≤ 9 by omega) (show n + 1 ≤ 9 by omega)
  have HS : Hid (∀ w, Calls Tryz.prog 40 #[.agg #[.int .i64 n]] w fun e w' => e = .returned (.int .i64 ((n + 1 : Nat) : Int)) ∧ Below w.heap.size w w') := fun w => side_any n w h
  have e1 : IntKind.i64.wrap (((n + 1 : Nat) : Int) * ((n + 1 : Nat) : Int)) = (((n + 1) * (n + 1) : Nat) : Int) := by
    rw [← Int.natCast_mul]
    generalize (n + 1) * (n + 1) = z at *
    rw [IntKind.wrap_i64]
    omega
  have HQ : Hid (∀ k, k < l.length → k / (n + 1) ≤ n ∧ k % (n + 1) ≤ n) := fun k hk => ⟨by have := Nat.div_lt_of_lt_mul (hlen ▸ hk); omega, by have := Nat.mod_lt k (show 0 < n + 1 by omega); omega⟩
  have e2 : IntKind.i64.wrap (((n + 1 : Nat) : Int) * ((n + 1 : Nat) : Int)) = (l.length : Int) := by rw [hlen]; exact e1
  rw [← hlen] at q
  clear e1
  have HR := hideD hR
  have HI := hideD hi
  clear hR hi
  have HZ : Hid (∀ b w, Draft w b n (tgAll n l l.length (startR n (n + 1) 0)) → Calls Tryz.prog 43 #[.pointer (some ⟨b, 0, none⟩)] w fun e w' => ZoneOut w' w.heap.size n e (zoneR n (tgAll n l l.length (startR n (n + 1) 0))) ∧ Below b w w') := fun b w hD => zone_any b n _ w h hD
  have HP : Hid (∀ (k : Nat) w, k < l.length → Calls Tryz.prog 30 #[.agg #[.int .i64 n], .int .i64 k] w fun e w' => e = .returned (.tuple #[.int .i64 ((k / (n + 1) : Nat) : Int), .int .i64 ((k % (n + 1) : Nat) : Int)]) ∧ Below w.heap.size w w') := fun k w hk => place_any n k w h (by omega)
  have hm : Hid (l.length = l.length) := rfl
  have HL := hideD hlen
  clear hlen
  generalize em : l.length = m at *
  generalize ((n + 1 : Nat) : Int) = s at *
  have m1 : (m : Int) ≤ 81 := by omega
  go_enter Tryz.func17, Tryz.ntmps17
  go_wp2_with fail
  refine H.out.mono ?_
  rintro e w' ⟨rfl, rfl⟩
  go_wp2_with fail
  refine HD.out.mono ?_
  rintro e w1 ⟨rfl, hd, hb⟩
  have hc := hd.clocks
  have HD1 := hideD hd
  have HB1 := hideD hb
  clear hd hb H HD
  go_upto_region 4 with (fail)
  go_cut [29] (fun t w2 => t = .bool (false) ∧ Hid (Below w1.heap.size w1 w2))
  case first =>
    go_region_held3 (fun w2 => Below w1.heap.size w1 w2 ∧ w2.cell? ⟨w'.heap.size, 0, none⟩ = some (.int .i64 n))
      (first | exact ⟨by first | assumption | exact Below.refl _ _ | exact Below.drew (Below.refl _ _), by first | assumption | simp [go_sem, *]⟩ | go_keep)
      (first | (go_at_call 40; refine (HS.out _).mono ?_; rintro e' w2 ⟨rfl, hb⟩; have s0 := kc ⟨w'.heap.size, 0, none⟩ (.int .i64 n) hb (by first | assumption | simp [go_sem, *]); have s1 := beyondD (w := w1) (by first | assumption | exact Below.refl _ _ | exact Below.drew (Below.refl _ _)) hb))
    all_goals go_wp2_with fail
    all_goals go_meet
    all_goals exact ⟨by first | rfl | simp [*], by assumption⟩
  case rest =>
    obtain ⟨rfl, hb2⟩ := hcut
    have hD2 := hideD (HD1.out.later hb2.out HD1.out.lt)
    have hB2 := hideD (HB1.out.trans (hb2.out.mono HB1.out.size))
    clear hb2 HD1 HB1 hc
    go_wp2_with fail
    go_loopw [32] (fun s wr => ∃ (K : Nat), K ≤ m ∧ s = .int .i64 K ∧ Hid (allRight l K = true) ∧ Hid (Draft wr w'.heap.size n (tgAll n l K (startR n (n + 1) 0))) ∧ Hid (Below w'.heap.size w' wr)) (fun s _ => m - (intOf s).toNat)
    case atStart => exact ⟨0, by omega, rfl, rfl, hD2, hB2⟩
    case round =>
      obtain ⟨K, hK, rfl, hq, hD, hB⟩ := hrel
      clear hD2 hB2
      by_cases ck : K < m
      · have hrow := (HR.out.later hB.out hcb) K (by omega)
        obtain ⟨x0, x1⟩ := HI.out K (by omega)
        have st : Hid (allRight l (K + 1) = rightB (l.getD K 0)) := by show allRight l (K + 1) = _; simp [allRight, hq.out]
        have nx : Hid (tgAll n l (K + 1) (startR n (n + 1) 0) = tg (tgAll n l K (startR n (n + 1) 0)) (K / (n + 1)) (K % (n + 1)) (l.getD K 0)) := rfl
        obtain ⟨i1, j1⟩ := HQ.out K ck
        have HPK : Hid (∀ w, Calls Tryz.prog 30 #[.agg #[.int .i64 n], .int .i64 K] w fun e w' => e = .returned (.tuple #[.int .i64 ((K / (n + 1) : Nat) : Int), .int .i64 ((K % (n + 1) : Nat) : Int)]) ∧ Below w.heap.size w w') := fun w => HP.out K w ck
        have HB : Hid (∀ w, Calls Tryz.prog 41 #[.int .i32 (l.getD K 0)] w fun e w' => e = .returned (.bool (rightB (l.getD K 0))) ∧ w' = w) := fun w => right_any _ w
        generalize K / (n + 1) = i at *
        generalize K % (n + 1) = j at *
        generalize l.getD K 0 = x at *
        cases er : rightB x with
        | false =>
          rw [er] at HB st
          have st3 : Hid (allRight l m = false) := allRight_false (k := K + 1) m (by omega) st.out
          go_wp2_with fail
          refine (HB.out _).mono ?_
          rintro e' w3 ⟨rfl, rfl⟩
          go_wp2_with fail
          refine bodyPost_ret (v := .tuple #[.pointer none, .int .i64 7]) (by simp [results, Tryz.results17, go_sem]) rfl ⟨hB.out, .inl ⟨st3.out, rfl⟩⟩
        | true =>
          rw [er] at HB st
          have hc := hD.out.clocks
          go_wp2_with fail
          refine (HB.out _).mono ?_
          rintro e' w3 ⟨rfl, rfl⟩
          go_wp2_with fail
          refine (HPK.out _).mono ?_
          rintro e' w4 ⟨rfl, hb⟩
          have hD4 := hideD (hD.out.later hb hD.out.lt)
          have hB4 := hideD (beyondD hB.out hb)
          have HT := hideD (tighten_any _ n i j _ x w4 hD4.out (by omega) (by omega) x0 x1)
          clear hb hD hB hc hrow
          go_wp2_with fail
          refine HT.out.mono ?_
          rintro e' w5 ⟨rfl, hd, hb⟩
          have hD5 := hideD hd
          have hB5 := hideD (hB4.out.trans hb)
          clear hd hb
          go_wp2_with fail
          go_roundw
          case rel => exact ⟨K + 1, by omega, by go_num, st, by rw [nx.out]; exact hD5, hB5⟩
          case measure => simp [intOf]; omega
      · have st : Hid (K = m) := by show K = m; omega
        have hq' : Hid (allRight l m = true) := by have e := st.out; subst e; exact hq
        have hD' : Hid (Draft wr w'.heap.size n (tgAll n l m (startR n (n + 1) 0))) := by have e := st.out; subst e; exact hD
        have HZ' := hideD (HZ.out _ _ hD'.out)
        go_wp2_with fail
        refine HZ'.out.mono ?_
        rintro e' w3 ⟨hz, hb⟩
        have hB3 := hideD (hB.out.trans hb)
        have hsz := hB.out.size
        cases ez : zoneR n (tgAll n l m (startR n (n + 1) 0)) with
        | none =>
          rw [ez] at hz
          obtain rfl := hz
          go_wp2_with fail
          exact bodyPost_ret (v := .tuple #[.pointer none, .int .i64 10]) (by simp [results, Tryz.results17, go_sem]) rfl ⟨hB3.out, .inr ⟨hq'.out, by rw [ez]; exact rfl⟩⟩
        | some c =>
          rw [ez] at hz
          obtain ⟨b', hb', rfl, hz⟩ := hz
          go_wp2_with fail
          exact bodyPost_ret (v := .tuple #[.pointer (some ⟨b', 0, none⟩), .int .i64 0]) (by simp [results, Tryz.results17, go_sem]) rfl ⟨hB3.out, .inr ⟨hq'.out, by rw [ez]; exact ⟨b', Nat.le_trans hsz hb', rfl, hz⟩⟩⟩
end Go.Proofs.YtdkolgndebkloaaGreatDoor

/-
  The contracts of dbm.Limits without limits, Universe, Zero.
-/
namespace Go.Proofs.YtdkolgndebkloaaGreatDoor
open Go.RowKit
set_option linter.unusedVariables false
set_option maxRecDepth 100000
set_option maxHeartbeats 1000000 in
theorem limits_none (n : Nat) (w : World) (h : n ≤ 8) :
    Calls Tryz.prog 56 #[.int .i64 n, .slice none 0 0] w fun e w' => Below w.heap.size w w' ∧ ZoneOut w' w.heap.size n e (zoneR n (startR n (n + 1) 0)) := by
  have H := hideD (mayYes n w h)
  have HD := hideD (draftOf_any n w h)
  go_enter Tryz.func56, Tryz.ntmps56
  go_wp2_with fail
  refine H.out.mono ?_
  rintro e w' ⟨rfl, rfl⟩
  go_wp2_with fail
  refine HD.out.mono ?_
  rintro e w1 ⟨rfl, hd, hb⟩
  have HZ := hideD (zone_any _ n _ w1 h hd)
  have hB := hideD hb
  clear hd hb H HD
  go_wp2_with fail
  go_loopw [16] (fun s wr => s = .int .i64 0 ∧ wr = w1) (fun s _ => 1)
  case atStart => exact ⟨rfl, rfl⟩
  case round =>
    obtain ⟨rfl, rfl⟩ := hrel
    go_wp2_with fail
    refine HZ.out.mono ?_
    rintro e' w3 ⟨hz, hb⟩
    have hB3 := hideD (hB.out.trans hb)
    have hsz := hB.out.size
    cases ez : zoneR n (startR n (n + 1) 0) with
    | none =>
      rw [ez] at hz
      obtain rfl := hz
      go_wp2_with fail
      exact bodyPost_ret (v := .tuple #[.pointer none, .int .i64 10]) (by simp [results, Tryz.results56, go_sem]) rfl ⟨hB3.out, by rw [ez]; exact rfl⟩
    | some c =>
      rw [ez] at hz
      obtain ⟨b', hb', rfl, hz⟩ := hz
      go_wp2_with fail
      exact bodyPost_ret (v := .tuple #[.pointer (some ⟨b', 0, none⟩), .int .i64 0]) (by simp [results, Tryz.results56, go_sem]) rfl ⟨hB3.out, by rw [ez]; exact ⟨b', Nat.le_trans hsz hb', rfl, hz⟩⟩
theorem limits_clock (n : Int) (v : Value) (w : World) (h : ¬ (0 ≤ n ∧ n ≤ 8)) :
    Calls Tryz.prog 56 #[.int .i64 n, v] w fun e w' => e = errOf 12 ∧ w' = w := by
  have H : Hid (Calls Tryz.prog 38 #[.int .i64 n] w fun e w' => e = .returned (.bool false) ∧ w' = w) := by
    have := mayHave_any n w
    rw [decide_eq_false h] at this
    exact this
  clear h
  go_enter Tryz.func56, Tryz.ntmps56
  go_wp2_with fail
  refine H.out.mono ?_
  rintro e w' ⟨rfl, rfl⟩
  go_wp2_with fail
  refine bodyPost_ret (v := .tuple #[.pointer none, .int .i64 12]) (by simp [results, Tryz.results56, go_sem]) rfl ⟨rfl, rfl⟩
theorem universe_any (n : Nat) (w : World) (h : n ≤ 8) :
    Calls Tryz.prog 24 #[.int .i64 n] w fun e w' => Below w.heap.size w w' ∧ ZoneOut w' w.heap.size n e (zoneR n (startR n (n + 1) 0)) := by
  have H := hideD (limits_none n w h)
  go_enter Tryz.func24, Tryz.ntmps24
  go_wp2_with fail
  refine H.out.mono ?_
  rintro e' w3 ⟨hb, hz⟩
  cases ez : zoneR n (startR n (n + 1) 0) with
  | none =>
    rw [ez] at hz
    obtain rfl := hz
    go_wp2_with fail
    exact bodyPost_ret (v := .tuple #[.pointer none, .int .i64 10]) (by simp [results, Tryz.results24, go_sem]) rfl ⟨hb, by rw [ez]; exact rfl⟩
  | some c =>
    rw [ez] at hz
    obtain ⟨b', hb', rfl, hz⟩ := hz
    go_wp2_with fail
    exact bodyPost_ret (v := .tuple #[.pointer (some ⟨b', 0, none⟩), .int .i64 0]) (by simp [results, Tryz.results24, go_sem]) rfl ⟨hb, by rw [ez]; exact ⟨b', hb', rfl, hz⟩⟩
theorem universe_clock (n : Int) (w : World) (h : ¬ (0 ≤ n ∧ n ≤ 8)) :
    Calls Tryz.prog 24 #[.int .i64 n] w fun e w' => e = errOf 12 ∧ w' = w := by
  have H := hideD (limits_clock n (.slice none 0 0) w h)
  go_enter Tryz.func24, Tryz.ntmps24
  go_wp2_with fail
  refine H.out.mono ?_
  rintro e' w3 ⟨rfl, rfl⟩
  go_wp2_with fail
  exact bodyPost_ret (v := .tuple #[.pointer none, .int .i64 12]) (by simp [results, Tryz.results24, go_sem]) rfl ⟨rfl, rfl⟩
/-- The rows of the one valuation in which all clocks are 0, laid up to clock c. -/
def zeroR : Nat → Mat → Mat
  | 0, r => r
  | c + 1, r => tg (zeroR c r) (c + 1) 0 1
set_option maxHeartbeats 1000000 in
theorem zero_dbm (n : Nat) (w : World) (h : n ≤ 8) :
    Calls Tryz.prog 23 #[.int .i64 n] w fun e w' => Below w.heap.size w w' ∧ ZoneOut w' w.heap.size n e (zoneR n (zeroR n (startR n (n + 1) 0))) := by
  have H := hideD (mayYes n w h)
  have HD := hideD (draftOf_any n w h)
  go_enter Tryz.func23, Tryz.ntmps23
  go_wp2_with fail
  refine H.out.mono ?_
  rintro e w' ⟨rfl, rfl⟩
  go_wp2_with fail
  refine HD.out.mono ?_
  rintro e w1 ⟨rfl, hd, hb⟩
  have hD1 := hideD hd
  have hB1 := hideD hb
  clear hd hb H HD
  go_wp2_with fail
  go_loopw [5] (fun s wr => ∃ (K : Nat), K ≤ n ∧ s = .int .i64 ((K + 1 : Nat) : Int) ∧ Hid (Draft wr w'.heap.size n (zeroR K (startR n (n + 1) 0))) ∧ Hid (Below w'.heap.size w' wr)) (fun s _ => n + 1 - (intOf s).toNat)
  case atStart => exact ⟨0, by omega, rfl, hD1, hB1⟩
  case round =>
    obtain ⟨K, hK, rfl, hD, hB⟩ := hrel
    clear hD1 hB1
    by_cases c : K < n
    · have HT := hideD (tighten_any _ n (K + 1) 0 _ 1 wr hD.out (by omega) (by omega) (by omega) (by omega))
      have eK : Hid (((K + 1 : Nat) : Int) = (K + 1 : Nat)) := rfl
      have cc : ((K + 1 : Nat) : Int) ≤ (n : Int) := by omega
      have c2 : ((K + 1 : Nat) : Int) < 9223372036854775807 := by omega
      have q0 : ((K + 1 : Nat) : Int) + 1 = ((K + 1 + 1 : Nat) : Int) := by omega
      have QQ := hideD q0
      clear q0
      generalize ez : ((K + 1 : Nat) : Int) = z at *
      go_wp2_with fail
      refine HT.out.mono ?_
      rintro e' w2 ⟨rfl, hd, hb⟩
      have hD5 := hideD hd
      have hB5 := hideD (hB.out.trans hb)
      clear hd hb
      go_wp2_with fail
      go_roundw
      case rel => exact ⟨K + 1, by omega, by rw [← QQ.out], hD5, hB5⟩
      case measure => simp [intOf]; omega
    · have st : Hid (K = n) := by show K = n; omega
      have hD' : Hid (Draft wr w'.heap.size n (zeroR n (startR n (n + 1) 0))) := by have e := st.out; subst e; exact hD
      have HZ := hideD (zone_any _ n _ wr h hD'.out)
      have cc : ¬ ((K + 1 : Nat) : Int) ≤ (n : Int) := by omega
      have hsz := hB.out.size
      generalize ez : ((K + 1 : Nat) : Int) = z at *
      go_wp2_with fail
      refine HZ.out.mono ?_
      rintro e' w3 ⟨hz, hb⟩
      have hB3 := hideD (hB.out.trans hb)
      cases ez : zoneR n (zeroR n (startR n (n + 1) 0)) with
      | none =>
        rw [ez] at hz
        obtain rfl := hz
        go_wp2_with fail
        exact bodyPost_ret (v := .tuple #[.pointer none, .int .i64 10]) (by simp [results, Tryz.results23, go_sem]) rfl ⟨hB3.out, by rw [ez]; exact rfl⟩
      | some c =>
        rw [ez] at hz
        obtain ⟨b', hb', rfl, hz⟩ := hz
        go_wp2_with fail
        exact bodyPost_ret (v := .tuple #[.pointer (some ⟨b', 0, none⟩), .int .i64 0]) (by simp [results, Tryz.results23, go_sem]) rfl ⟨hB3.out, by rw [ez]; exact ⟨b', Nat.le_trans hsz hb', rfl, hz⟩⟩
end Go.Proofs.YtdkolgndebkloaaGreatDoor

/-
  The contracts of Zone.Cells, Includes, Equal, Key.
-/
namespace Go.Proofs.YtdkolgndebkloaaGreatDoor
open Go.RowKit
set_option linter.unusedVariables false
set_option maxRecDepth 100000
theorem info_bd : (Tryz.prog.info? 47).map (fun i => (i.zero, i.size, i.bytes)) = some (some (.int .i32 0), 1, 4) := by kernel_rfl
/-- The used cells, as a list. -/
def listOf (c : Row) (m : Nat) : List Int := (List.range m).map c
theorem listOf_len (c : Row) (m : Nat) : (listOf c m).length = m := by simp [listOf]
theorem listOf_get (c : Row) (m j : Nat) (h : j < m) : (listOf c m).getD j 0 = c j := by simp [listOf, List.getD, h]
/-- A row that the call made itself. -/
def OwnRow (w : World) (B : Nat) (v : Value) (l : List Int) : Prop := ∃ g cap, v = .slice (some ⟨g, 0, none⟩) l.length cap ∧ B ≤ g ∧ g < w.heap.size ∧ RowAt w g 0 l
set_option maxHeartbeats 1000000 in
theorem cells_any (b n : Nat) (c : Row) (w : World) (hz : ZoneAt w b n c) (hn : n ≤ 8) :
    Calls Tryz.prog 14 #[.pointer (some ⟨b, 0, none⟩)] w fun e w' => (∃ v, e = .returned v ∧ OwnRow w' w.heap.size v (listOf c ((n + 1) * (n + 1)))) ∧ Below w.heap.size w w' := by
  have HU := hideD (used_any b n w hn hz.clocks)
  have hm : (n + 1) * (n + 1) ≤ 81 := Nat.mul_le_mul (show n + 1 ≤ 9 by omega) (show n + 1 ≤ 9 by omega)
  have hp : 0 < (n + 1) * (n + 1) := Nat.mul_pos (by omega) (by omega)
  generalize (n + 1) * (n + 1) = m at *
  have hl := listOf_len c m
  obtain ⟨i0, hi, hz0, hz1, hz2⟩ := info_parts info_bd
  have HZ := hideD hz
  clear hz
  go_enter Tryz.func14, Tryz.ntmps14
  go_wp2_with fail
  refine HU.out.mono ?_
  rintro e w1 ⟨rfl, hb⟩
  have hZ1 := hideD (HZ.out.past hb)
  have hB1 := hideD hb
  have HN : Hid (∀ j u, ((listOf c m).map (Value.int .i32))[j]? = some u → w1.cell? ((⟨b, 1, none⟩ : Addr).add j) = some u) := by
    intro j u hu
    rw [Addr.add_lit]
    by_cases hj : j < m
    · rw [hZ1.out.cell j (by omega)]
      simp [listOf, hj] at hu
      simp [hu]
    · rw [List.getElem?_eq_none (by simp [hl]; omega)] at hu
      cases hu
  clear hb HU HZ
  go_wp2_with (at_builtin; refine wpList_append_own _ rfl _ _ 22 rfl w1.heap.size 47 i0 (.int .i32 0) 1 4 Tryz.underlying22 hi hz0 hz1 hz2 rfl (by decide) _ 0 [] rfl (World.ownsRow_nil _ _ _ _) ⟨b, 1, none⟩ m 81 ((listOf c m).map (Value.int .i32)) rfl (by simp [hl]) HN.out (fun x hx => by obtain ⟨z, _, rfl⟩ := List.mem_map.1 hx; rfl) (by unfold maxLen; omega) (by omega) (Nat.le_refl _) ?_; intro v' w2 hown hgrow hnil)
  have hb2 : Below w1.heap.size w1 w2 := (Below.refl _ _).grown hgrow (Nat.le_refl _) (by intro k hk; cases hk)
  go_ret
  refine ⟨⟨v', rfl, ?_⟩, beyondD hB1.out hb2⟩
  rcases hown.2 with ⟨rfl, hn0⟩ | ⟨g, cap, cur, rfl, hg, h2, h3, h4, h5, h6⟩
  · exfalso
    simp at hn0
    omega
  · have hrow : RowAt w2 g 0 (listOf c m) := fun j hj => by
      have hc := World.ownsRow.cells hown (g := g) rfl j (.int .i32 ((listOf c m).getD j 0)) (by simp [List.getD, hj])
      rw [Addr.add_lit] at hc
      exact hc
    refine ⟨g, cap, by rw [hl]; simp, Nat.le_trans hB1.out.size hg, ?_, hrow⟩
    exact World.block_lt_of_cell? _ _ (hrow 0 (by rw [hl]; exact hp))
end Go.Proofs.YtdkolgndebkloaaGreatDoor

/-
  The contracts of alike, Zone.Equal, Includes.
-/
namespace Go.Proofs.YtdkolgndebkloaaGreatDoor
open Go.RowKit
set_option linter.unusedVariables false
set_option maxRecDepth 100000
theorem alike_raw (b o : Nat) (n m : Int) (w : World) (h1 : w.cell? ⟨b, 0, none⟩ = some (.int .i64 n)) (h2 : w.cell? ⟨o, 0, none⟩ = some (.int .i64 m)) :
    Calls Tryz.prog 37 #[.pointer (some ⟨b, 0, none⟩), .pointer (some ⟨o, 0, none⟩)] w fun e w' => e = .returned (.bool (n == m)) ∧ ∃ k, w' = w.drewN k := by
  go_enter Tryz.func37, Tryz.ntmps37
  go_wp2_with fail
  go_quiet (fail)
  go_wp2_with fail
  go_ret
  exact ⟨rfl, _, rfl⟩
theorem alike_same (b o n : Nat) (c d : Row) (w : World) (hz : ZoneAt w b n c) (hy : ZoneAt w o n d) :
    Calls Tryz.prog 37 #[.pointer (some ⟨b, 0, none⟩), .pointer (some ⟨o, 0, none⟩)] w fun e w' => e = .returned (.bool true) ∧ ∃ k, w' = w.drewN k := by
  have := alike_raw b o n n w hz.clocks hy.clocks
  simpa using this
/-- Are two rows the same at the first m places? -/
def eqUpto (c d : Row) (m : Nat) : Bool := (List.range m).all fun i => c i == d i
theorem run_eql_row (c d : Row) (w : World) :
    (binOp .eql 57 (.agg ((listOf c 81).map (Value.int .i32)).toArray) (.agg ((listOf d 81).map (Value.int .i32)).toArray)).run Tryz.prog w = .ok (.bool (eqUpto c d 81)) w := by
  have hu : Tryz.prog.underlying 57 = some (.array 81 47) := by kernel_rfl
  have he : Tryz.prog.underlying 47 = some (.int .i32) := by kernel_rfl
  have hs : ∀ w, (Go.sizeOf 47).run Tryz.prog w = .ok 1 w := fun w => by kernel_rfl
  rw [run_eql_struct, Op.equalIn]
  simp only [Sem.run_bind, run_underlying hu, Result.andThen_ok, hs, Std.Legacy.Range.forIn_eq_forIn_range', Std.Legacy.Range.size, Nat.sub_zero, Nat.add_sub_cancel, Nat.div_one]
  rw [eqUpto, List.range_eq_range']
  have hl : ∀ i ∈ List.range' 0 81, i < 81 := fun i hi => by simpa using (List.mem_range'_1.1 hi).2
  generalize List.range' 0 81 = l at hl ⊢
  induction l with
  | nil => simp
  | cons i l ih =>
    have hi : i < 81 := hl i (by simp)
    have px : (part 47 ((listOf c 81).map (Value.int .i32)).toArray (i * 1)).run Tryz.prog w = .ok (.int .i32 (c i)) w := by simp [part, isAgg, run_underlying he, listOf, hi]
    have py : (part 47 ((listOf d 81).map (Value.int .i32)).toArray (i * 1)).run Tryz.prog w = .ok (.int .i32 (d i)) w := by simp [part, isAgg, run_underlying he, listOf, hi]
    have pe : (Op.equalIn 9999 47 (.int .i32 (c i)) (.int .i32 (d i))).run Tryz.prog w = .ok (c i == d i) w := run_equalIn_int w 9998 _ .i32 .i32 _ _ he
    simp only [List.forIn_cons, Sem.run_bind, px, py, pe, Result.andThen_ok, List.all_cons]
    cases hb : (c i == d i)
    · simp
    · simp only [Bool.not_true, Bool.false_eq_true, if_false, Sem.run_pure, Result.andThen_ok, Bool.true_and]
      exact ih fun j hj => hl j (by simp [hj])
theorem load_row (b n : Nat) (c : Row) (w : World) (hz : ZoneAt w b n c) :
    (Instr.loadAt 57 (.pointer (some ⟨b, 1, none⟩))).run Tryz.prog w = .ok (.agg ((listOf c 81).map (Value.int .i32)).toArray) w := by
  refine run_loadAt_mid w b 1 _ _ (.array 81 47) ?_ (by kernel_rfl) rfl (by rw [List.length_map, listOf_len]; kernel_rfl)
  intro j v hv
  by_cases hj : j < 81
  · rw [hz.cell j hj]
    simp [listOf, hj] at hv
    simp [hv]
  · rw [List.getElem?_eq_none (by simp [listOf_len]; omega)] at hv
    cases hv
theorem includes_some (b o n : Nat) (c d : Row) (w : World) (hz : ZoneAt w b n c) (hy : ZoneAt w o n d) (hn : n ≤ 8) (hd : decide (d 0 < 1) = false) :
    Calls Tryz.prog 25 #[.pointer (some ⟨b, 0, none⟩), .pointer (some ⟨o, 0, none⟩)] w fun e w' => e = .returned (.bool (nless c d ((n + 1) * (n + 1)))) ∧ Below w.heap.size w w' := by
  have HA := hideD (alike_same b o n c d w hz hy)
  have HH : Hid (∀ w', Below w.heap.size w w' → Calls Tryz.prog 27 #[.pointer (some ⟨o, 0, none⟩)] w' fun e w'' => e = .returned (.bool (decide (d 0 < 1))) ∧ Below w'.heap.size w' w'') := fun w' hb => hollow_any o n d w' hn (hy.past hb)
  have HN : Hid (∀ w', Below w.heap.size w w' → Calls Tryz.prog 57 #[.pointer (some ⟨b, 0, none⟩), .pointer (some ⟨o, 0, none⟩)] w' fun e w'' => e = .returned (.bool (nless c d ((n + 1) * (n + 1)))) ∧ Below w'.heap.size w' w'') := fun w' hb => nless_any b o n c d w' hn (hz.past hb) (hy.past hb)
  generalize nless c d ((n + 1) * (n + 1)) = q at *
  clear hz hy
  rw [hd] at HH
  go_enter Tryz.func25, Tryz.ntmps25
  go_wp2_with fail
  refine HA.out.mono ?_
  rintro e w1 ⟨rfl, k, rfl⟩
  have B1 := hideD (below_draw w k)
  generalize w.drewN k = W at *
  go_wp2_with fail
  have B2 := B1.out
  go_region_held3 (fun w' => Below w.heap.size w w')
    (first | assumption | exact Below.drew (by assumption))
    (first
      | (go_at_call 27; refine (HH.out _ (by first | assumption | exact Below.drew (by assumption))).mono ?_; rintro e w' ⟨rfl, hb⟩; have h3 := beyondD (w := w) (by first | assumption | exact Below.drew (by assumption)) hb)
      | (go_at_call 57; refine (HN.out _ (by first | assumption | exact Below.drew (by assumption))).mono ?_; rintro e w' ⟨rfl, hb⟩; have h4 := beyondD (w := w) (by first | assumption | exact Below.drew (by assumption)) hb))
  all_goals
    go_wp2_with fail
    go_ret
    exact ⟨by first | rfl | simp, by assumption⟩
end Go.Proofs.YtdkolgndebkloaaGreatDoor

/-
  The contract of Zone.Equal: the two arrays are read and compared as wholes.
-/
namespace Go.Proofs.YtdkolgndebkloaaGreatDoor
open Go.RowKit
set_option linter.unusedVariables false
set_option maxRecDepth 100000
theorem quiet_load {P : Program} {C : World → Prop} {a : Act} {o : Oper} {K : Act → Prop} (t : TypeId) (x : Operand) (h : o.op = .load t x) (p : Addr) (hx : a.eval x = .pointer (some p)) (v : Value) (hl : ∀ w, C w → (Instr.loadAt t (.pointer (some p))).run P w = .ok v w) (hk : K (a.put o.dst v)) : o.quiet P a C K := by
  refine ⟨v, fun w hw => ?_, hk⟩
  unfold Oper.quietAt execOp
  simp only [h, hx, Sem.run_bind, hl w hw, Result.andThen_ok, Sem.run_pure]
  exact ⟨rfl, rfl⟩
theorem quiet_eql {P : Program} {C : World → Prop} {a : Act} {o : Oper} {K : Act → Prop} (t u : TypeId) (x y : Operand) (h : o.op = .binOp .eql t x y u) (p q : Array Value) (hx : a.eval x = .agg p) (hy : a.eval y = .agg q) (hg : P.eqGuardType P.depth t = false) (v : Value) (hl : ∀ w, C w → (binOp .eql t (.agg p) (.agg q)).run P w = .ok v w) (hk : K (a.put o.dst v)) : o.quiet P a C K := by
  refine ⟨v, fun w hw => ?_, hk⟩
  have g : (eqGuard BinOp.eql t x y (.agg p) (.agg q)).run P w = .ok () w := by
    simp [eqGuard, Sem.run_bind, hg]
  unfold Oper.quietAt execOp
  simp only [h, hx, hy, Sem.run_bind, Sem.run_pure, g, Result.andThen_ok, hl w hw]
  exact ⟨rfl, rfl⟩
set_option maxHeartbeats 2000000 in
theorem equal_any (b o n : Nat) (c d : Row) (w : World) (hz : ZoneAt w b n c) (hy : ZoneAt w o n d) :
    Calls Tryz.prog 16 #[.pointer (some ⟨b, 0, none⟩), .pointer (some ⟨o, 0, none⟩)] w fun e w' => e = .returned (.bool (eqUpto c d 81)) ∧ ∃ k, w' = w.drewN k := by
  have HA : Hid (∀ k, Calls Tryz.prog 37 #[.pointer (some ⟨b, 0, none⟩), .pointer (some ⟨o, 0, none⟩)] (w.drewN k) fun e w' => e = .returned (.bool true) ∧ ∃ k', w' = (w.drewN k).drewN k') := fun k => alike_same b o n c d _ (hz.drewN k) (hy.drewN k)
  have L1 : Hid (∀ w', (∃ k, w' = w.drewN k) → (Instr.loadAt 57 (.pointer (some ⟨b, 1, none⟩))).run Tryz.prog w' = .ok (.agg ((listOf c 81).map (Value.int .i32)).toArray) w') := fun w' ⟨k, hk⟩ => by rw [hk]; exact load_row b n c _ (hz.drewN k)
  have L2 : Hid (∀ w', (∃ k, w' = w.drewN k) → (Instr.loadAt 57 (.pointer (some ⟨o, 1, none⟩))).run Tryz.prog w' = .ok (.agg ((listOf d 81).map (Value.int .i32)).toArray) w') := fun w' ⟨k, hk⟩ => by rw [hk]; exact load_row o n d _ (hy.drewN k)
  have E : Hid (∀ w', (∃ k, w' = w.drewN k) → (binOp .eql 57 (.agg ((listOf c 81).map (Value.int .i32)).toArray) (.agg ((listOf d 81).map (Value.int .i32)).toArray)).run Tryz.prog w' = .ok (.bool (eqUpto c d 81)) w') := fun w' _ => run_eql_row c d w'
  generalize ((listOf c 81).map (Value.int .i32)).toArray = x at *
  generalize ((listOf d 81).map (Value.int .i32)).toArray = y at *
  clear hz hy
  go_enter Tryz.func16, Tryz.ntmps16
  go_wp2_with fail
  refine wp_region_quiet_lit (by kernel_rfl) (by kernel_rfl) ?_
  iterate 8 quiet_step ((go_at_call 37; exact Calls.quiet_of (HA.out _)))
  refine BigFrame.wpQuiet_want rfl (fun K hK => quiet_load _ _ rfl _ rfl _ L1.out (hK _ ?_))
  clear hK K
  iterate 4 quiet_step (fail)
  refine BigFrame.wpQuiet_want rfl (fun K hK => quiet_load _ _ rfl _ rfl _ L2.out (hK _ ?_))
  clear hK K
  refine BigFrame.wpQuiet_want rfl (fun K hK => quiet_eql _ _ _ _ rfl _ _ rfl rfl (by kernel_rfl) _ E.out (hK _ ?_))
  clear hK K
  iterate 2 quiet_step (fail)
  refine wpQuiet_nil ?_
  intro _ hw'
  obtain ⟨nq, hw''⟩ := hw'
  subst hw''
  go_wp2_with fail
  go_ret
  exact ⟨rfl, _, rfl⟩
end Go.Proofs.YtdkolgndebkloaaGreatDoor

/-
  What must be whatever is asked (live of the statements of dbm).
-/
namespace Go.Proofs.YtdkolgndebkloaaGreatDoor
open Go.RowKit
set_option linter.unusedVariables false
set_option maxRecDepth 100000
theorem zero1 : (zoneR 1 (zeroR 1 (startR 1 (1 + 1) 0))).map (fun c => [c 0, c 1, c 2, c 3]) = some [1, 1, 1, 1] := by kernel_rfl
theorem univ1 : (zoneR 1 (startR 1 (1 + 1) 0)).map (fun c => [c 0, c 1, c 2, c 3]) = some [1, 1, 2147483647, 1] := by kernel_rfl
def scUpto (l m : List Int) : Nat → Bool
  | 0 => true
  | k + 1 => scUpto l m k && (l.getD k 0 == m.getD k 0)
theorem scUpto_false {l m : List Int} : ∀ {k : Nat} (n : Nat), k ≤ n → scUpto l m k = false → scUpto l m n = false := by
  intro k n h e
  induction n with
  | zero => obtain rfl : k = 0 := by omega
            exact e
  | succ n ih =>
    by_cases q : k = n + 1
    · subst q; exact e
    · simp [scUpto, ih (by omega)]
set_option maxHeartbeats 1000000 in
theorem sameCells_same (g1 g2 c1 c2 n : Nat) (l m : List Int) (w : World) (h1 : RowAt w g1 0 l) (h2 : RowAt w g2 0 m) (hl : l.length = n) (hm : m.length = n) (hn : n ≤ 81) :
    Calls Tryz.prog 13 #[.slice (some ⟨g1, 0, none⟩) n c1, .slice (some ⟨g2, 0, none⟩) n c2] w fun e w' => e = .returned (.bool (scUpto l m n)) ∧ ∃ k, w' = w.drewN k := by
  have H1 : Hid (∀ j, j < n → w.cell? ⟨g1, j, none⟩ = some (.int .i32 (l.getD j 0))) := fun j hj => by have := h1 j (by omega); simpa using this
  have H2 : Hid (∀ j, j < n → w.cell? ⟨g2, j, none⟩ = some (.int .i32 (m.getD j 0))) := fun j hj => by have := h2 j (by omega); simpa using this
  clear h1 h2 hl hm
  go_enter Tryz.func13, Tryz.ntmps13
  go_wp2_with fail
  go_loopw [5] (fun s wr => ∃ (I k : Nat), I ≤ n ∧ s = .int .i64 I ∧ Hid (scUpto l m I = true) ∧ wr = w.drewN k) (fun s _ => n - (intOf s).toNat)
  case atStart => exact ⟨0, 0, by omega, rfl, rfl, rfl⟩
  case round =>
    obtain ⟨I, k, hI, rfl, hq, rfl⟩ := hrel
    by_cases ci : I < n
    · have a1 := H1.out I ci
      have a2 := H2.out I ci
      have st : Hid (scUpto l m (I + 1) = (l.getD I 0 == m.getD I 0)) := by show scUpto l m (I + 1) = _; simp [scUpto, hq.out]
      have i0 : (0 : Int) ≤ (I : Int) := by omega
      have i1 : (I : Int) < (n : Int) := by omega
      generalize l.getD I 0 = x at *
      generalize m.getD I 0 = y at *
      cases cx : (x == y)
      · have st3 : Hid (scUpto l m n = false) := scUpto_false (k := I + 1) n (by omega) (st.out.trans cx)
        clear st hq
        have cy : (x != y) = true := by simp [bne, cx]
        go_wp2_with fail
        go_quiet (fail)
        go_wp2_with fail
        go_ret
        exact ⟨by rw [st3.out]; rfl, _, World.drewN_drewN _ _ _⟩
      · have st3 : Hid (scUpto l m (I + 1) = true) := st.out.trans cx
        clear st hq
        have cy : (x != y) = false := by simp [bne, cx]
        go_wp2_with fail
        go_quiet (fail)
        go_wp2_with fail
        go_roundw
        case rel => exact ⟨I + 1, _, by omega, by go_num, st3, rfl⟩
        case measure => simp [intOf]; omega
    · have st : Hid (scUpto l m n = true) := by
        obtain rfl : I = n := by omega
        exact hq.out
      clear hq
      go_wp2_with fail
      go_ret
      exact ⟨by rw [st.out]; rfl, _, rfl⟩
theorem sc_of_eq (l m : List Int) (n : Nat) (h : ∀ j, j < n → l.getD j 0 = m.getD j 0) : scUpto l m n = true := by
  induction n with
  | zero => rfl
  | succ n ih =>
    have := h n (by omega)
    simp only [scUpto, ih (fun j hj => h j (by omega)), this, beq_self_eq_true, Bool.and_self]
theorem list4 (c : Row) (a b d e : Int) (h : [c 0, c 1, c 2, c 3] = [a, b, d, e]) : listOf c ((1 + 1) * (1 + 1)) = [a, b, d, e] := h
theorem map_some {o : Option Row} {l : List Int} (h : o.map (fun c => [c 0, c 1, c 2, c 3]) = some l) : ∃ c, o = some c ∧ [c 0, c 1, c 2, c 3] = l := by
  cases o with
  | none => simp at h
  | some c => exact ⟨c, rfl, by simpa using h⟩
theorem same_lit (g cap n : Nat) (l : List Int) (T : TypeId) (w : World) (hr : RowAt w g 0 l) (hl : l.length = n) (hn : n ≤ 81) (hp : 0 < n) :
    Calls Tryz.prog 13 #[.slice (some ⟨g, 0, none⟩) n cap, .slice (some ⟨w.heap.size, 0, none⟩) n n] (w.alloc (.cells (l.map (Value.int .i32)).toArray T)) fun e w' => e = .returned (.bool true) ∧ Below w.heap.size w w' := by
  have hg : g < w.heap.size := World.block_lt_of_cell? _ _ (hr 0 (by omega))
  have h2 : RowAt (w.alloc (.cells (l.map (Value.int .i32)).toArray T)) w.heap.size 0 l := fun j hj => by
    rw [World.cell?_alloc_at _ _ _ _ rfl]
    simp [List.getD, hj]
  refine (sameCells_same g w.heap.size cap n n l l _ (hr.later (below_one w _) hg) h2 hl hl hn).mono ?_
  rintro e w' ⟨rfl, k, rfl⟩
  rw [sc_of_eq l l n (fun _ _ => rfl)]
  exact ⟨rfl, below_drewN (below_one w _) k⟩
end Go.Proofs.YtdkolgndebkloaaGreatDoor

/-
  Includes of an empty zone.
-/
namespace Go.Proofs.YtdkolgndebkloaaGreatDoor
open Go.RowKit
set_option linter.unusedVariables false
set_option maxRecDepth 100000
set_option maxHeartbeats 4000000 in
theorem includes_empty (b o n : Nat) (c d : Row) (w : World) (hz : ZoneAt w b n c) (hy : ZoneAt w o n d) (hn : n ≤ 8) (hd : decide (d 0 < 1) = true) :
    Calls Tryz.prog 25 #[.pointer (some ⟨b, 0, none⟩), .pointer (some ⟨o, 0, none⟩)] w fun e w' => e = .returned (.bool true) ∧ Below w.heap.size w w' := by
  have HA := hideD (alike_same b o n c d w hz hy)
  have HH : Hid (∀ w', Below w.heap.size w w' → Calls Tryz.prog 27 #[.pointer (some ⟨o, 0, none⟩)] w' fun e w'' => e = .returned (.bool (decide (d 0 < 1))) ∧ Below w'.heap.size w' w'') := fun w' hb => hollow_any o n d w' hn (hy.past hb)
  clear hz hy
  rw [hd] at HH
  clear hd
  go_enter Tryz.func25, Tryz.ntmps25
  go_wp2_with fail
  refine HA.out.mono ?_
  rintro e w1 ⟨rfl, k, rfl⟩
  have B1 := hideD (below_draw w k)
  generalize w.drewN k = W at *
  go_wp2_with fail
  have B2 := B1.out
  first
  | go_region_with
    (go_at_call 27; refine (HH.out _ (by first | with_reducible assumption | with_reducible exact Below.drew (by with_reducible assumption))).mono ?_; rintro e w' ⟨rfl, hb⟩; have h3 := beyondD (w := w) (by first | with_reducible assumption | with_reducible exact Below.drew (by with_reducible assumption)) hb; clear hb)
  | fail
  all_goals go_wp2_with fail
  all_goals go_ret
  all_goals exact ⟨by first | rfl | simp, by assumption⟩
end Go.Proofs.YtdkolgndebkloaaGreatDoor
