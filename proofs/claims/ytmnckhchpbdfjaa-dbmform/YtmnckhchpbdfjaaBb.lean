/-
  The contracts of bound.Sum and Add: Sum reads a row of bounds and leaves the world; Add makes new memory alone.
-/
import Derived.Test.YtmnckhchpbdfjaaBa
namespace Go.Proofs.Ytmnckhchpbdfjaa
open Go.RowKit
def sT (l : List Int) : Int := l.foldl (fun t b => wrap64 (t + valV b)) 0
def sR (l : List Int) : Bool := l.foldl (fun t b => t && valR b) true
def sI (l : List Int) : Bool := l.foldl (fun t b => t || !finB b) false
def sBad (l : List Int) : Bool := l.any (fun b => !rightB b)
def sumB (l : List Int) : Int := if sBad l then 0 else if sI l then 2147483647 else ofB (sT l) (sR l)
def sumE (l : List Int) : Int := if sBad l then 7 else if sI l then 0 else ofE (sT l)
theorem take_snoc (l : List Int) (k : Nat) (h : k < l.length) : l.take (k + 1) = l.take k ++ [l.getD k 0] := by
  rw [List.take_succ_eq_append_getElem h]; simp [List.getD, h]
theorem sT_snoc (l : List Int) (x : Int) : sT (l ++ [x]) = wrap64 (sT l + valV x) := by simp [sT]
theorem sR_snoc (l : List Int) (x : Int) : sR (l ++ [x]) = (sR l && valR x) := by simp [sR]
theorem sI_snoc (l : List Int) (x : Int) : sI (l ++ [x]) = (sI l || !finB x) := by simp [sI]
theorem sBad_snoc (l : List Int) (x : Int) : sBad (l ++ [x]) = (sBad l || !rightB x) := by simp [sBad]
theorem sBad_of (l : List Int) (k : Nat) (h : k < l.length) (hx : rightB (l.getD k 0) = false) : sBad l = true := by
  simp only [sBad, List.any_eq_true]
  refine ⟨l.getD k 0, ?_, by simp only [hx]; rfl⟩
  simp only [List.getD, List.getElem?_eq_getElem h, Option.getD_some]
  exact List.getElem_mem h

end Go.Proofs.Ytmnckhchpbdfjaa
