/-
  The document's Next: the walk over signs.
-/
import Derived.Test.YtdofnjlnleofjaaDoorMc
namespace Go.Proofs.YtdofnjlnleofjaaDoor
open Go.RowKit
set_option linter.unusedVariables false
def SignAt (wr w : World) : Prop := XAt wr w ∧ ∀ i, i < 9 → wr.cell? ⟨w.heap.size + 1, i, none⟩ = some (.string (twoA i))
theorem x_drew {wr w : World} (h : XAt wr w) (n : Nat) : XAt (wr.drewN n) w :=
  ⟨h.1, h.2.1, h.2.2.1, h.2.2.2.1, h.2.2.2.2.1, h.2.2.2.2.2.1, h.2.2.2.2.2.2.1, h.2.2.2.2.2.2.2.1, below_drewN h.2.2.2.2.2.2.2.2 n⟩
theorem sign_drew {wr w : World} (h : SignAt wr w) (n : Nat) : SignAt (wr.drewN n) w :=
  ⟨⟨h.1.1, h.1.2.1, h.1.2.2.1, h.1.2.2.2.1, h.1.2.2.2.2.1, h.1.2.2.2.2.2.1, h.1.2.2.2.2.2.2.1, h.1.2.2.2.2.2.2.2.1, below_drewN h.1.2.2.2.2.2.2.2.2 n⟩, fun i g => h.2 i g⟩
theorem ext_two (s : ByteArray) (b : Nat) (h : b + 2 ≤ s.size) : (s.extract b (b + 2)).data.toList = [s[b]'(by omega), s[b + 1]'(by omega)] := by
  have e : (s.extract b (b + 2)).data.toList = (s.data.toList.drop b).take 2 := by
    simp only [ByteArray.data_extract, Array.toList_extract, List.extract_eq_take_drop]
    congr 1
    omega
  rw [e, drop_next s b (by omega), drop_next s (b + 1) (by omega)]
  rfl
def isTwo (s : ByteArray) (b : Nat) (h : b < s.size) : Bool := (inL lowA s[b] || inL lowC s[b]) && pairL (s.data.toList.drop b)
theorem two_yes (s : ByteArray) (b k : Nat) (h : b < s.size) (hk : k < 9) (g : b + 2 ≤ s.size) (e : (twoA k).data.toList = (s.extract b (b + 2)).data.toList) : isTwo s b h = true := by
  rw [ext_two s b g] at e
  have := (two_of (s[b]'h) (s[b + 1]'(by omega))).1 ⟨k, hk, e⟩
  unfold isTwo
  rw [drop_next s b h, drop_next s (b + 1) (by omega), pairL, this.1, this.2]
  rfl
theorem two_no (s : ByteArray) (b : Nat) (h : b < s.size) (e : ∀ j, j < 9 → b + 2 ≤ s.size → ¬ (twoA j).data.toList = (s.extract b (b + 2)).data.toList) : isTwo s b h = false := by
  cases q : isTwo s b h
  · rfl
  · exfalso
    unfold isTwo at q
    rw [Bool.and_eq_true] at q
    obtain ⟨q1, q2⟩ := q
    have hl := pair_len _ q2
    rw [List.length_drop, len_of] at hl
    have g : b + 2 ≤ s.size := by omega
    rw [drop_next s b h, drop_next s (b + 1) (by omega), pairL] at q2
    obtain ⟨i, hi, h2⟩ := (two_of (s[b]'h) (s[b + 1]'(by omega))).2 ⟨q1, q2⟩
    exact e i hi g (by rw [ext_two s b g]; exact h2)
theorem sign_is (s : ByteArray) (b : Nat) (h : b < s.size) (hd : digI (s[b].toNat : Int) = false) (hl : lttI (s[b].toNat : Int) = false) :
    firstM (s.data.toList.drop b) = if isTwo s b h = true then (0, 3, 2, 0) else if oneA.contains s[b] = true then (0, 3, 1, 0) else (90, 0, 0, 0) := by
  have e := first_sign s[b] (s.data.toList.drop (b + 1)) hl hd
  rw [← drop_next s b h] at e
  exact e
theorem bytes_same (a c : ByteArray) : (a.toList == c.toList) = true ↔ c.data.toList = a.data.toList := by
  rw [ByteArray.toList_eq, ByteArray.toList_eq]
  simp only [beq_iff_eq]
  exact ⟨fun h => h.symm, fun h => h.symm⟩
theorem one_at (i : Nat) (h : i < 14) : oneA[i]'h = (⟨#[44, 59, 46, 123, 125, 40, 41, 33, 60, 62, 63, 43, 45, 42]⟩ : ByteArray)[i]'h := by
  have : (⟨#[44, 59, 46, 123, 125, 40, 41, 33, 60, 62, 63, 43, 45, 42]⟩ : ByteArray).data.toList = oneA := rfl
  rfl
theorem ext_one (s : ByteArray) (b : Nat) (h : b < s.size) : (s.extract b (b + 1)).data.toList = [s[b]] := by
  have e : (s.extract b (b + 1)).data.toList = (s.data.toList.drop b).take 1 := by
    simp only [ByteArray.data_extract, Array.toList_extract, List.extract_eq_take_drop]
    congr 1
    omega
  rw [e, drop_next s b h]
  rfl
theorem one_text (s : ByteArray) (b k : Nat) (h : b < s.size) (hk : k < 14) (e : oneA[k]'hk = s[b]) : (⟨#[44, 59, 46, 123, 125, 40, 41, 33, 60, 62, 63, 43, 45, 42]⟩ : ByteArray).extract k (k + 1) = s.extract b (b + 1) := by
  have a := ext_one s b h
  have c := ext_one ⟨#[44, 59, 46, 123, 125, 40, 41, 33, 60, 62, 63, 43, 45, 42]⟩ k hk
  rw [← one_at k hk, e, ← a] at c
  exact ByteArray.ext (Array.toList_inj.1 c)
theorem one_none (s : ByteArray) (b : Nat) (h : b < s.size) (e : ∀ j (hj : j < 14), j < 14 → ¬ oneA[j]'hj = s[b]) : oneA.contains s[b] = false := by
  cases q : oneA.contains s[b]
  · rfl
  · rw [List.contains_iff_mem] at q
    obtain ⟨j, hj, g⟩ := List.getElem_of_mem q
    exact absurd g (e j hj hj)
end Go.Proofs.YtdofnjlnleofjaaDoor
