/-
  strings.SplitN at a blank.
-/
import Derived.Test.YteifpplemohdcaaGreatDoorQ0
import Derived.Test.YteifpplemohdcaaGreatDoorSk
import Derived.Test.YteifpplemohdcaaGreatDoorSb
namespace Go.Proofs.YteifpplemohdcaaGreatDoor
open Go.RowKit Go.Shelf
set_option linter.unusedVariables false
set_option maxRecDepth 100000
abbrev blankB : ByteArray := ⟨#[32]⟩
theorem sindex_one (s : ByteArray) (c : UInt8) (w : World) : Calls Tryz.prog 63 #[.string s, .string ⟨#[c]⟩] w fun e w' => e = .returned (.int .i64 (Lib.indexByte s.data.toList c)) ∧ w' = w := by
  have H := Go.Proofs.Tryz.stringslite_Index_one s c w
  go_enter Tryz.func63, Tryz.ntmps63
  go_wp2_with fail
  refine H.mono ?_
  rintro e w1 ⟨rfl, rfl⟩
  go_wp2_with fail
  go_ret
  exact ⟨rfl, rfl⟩
/-- How many pieces at most. -/
def atMostN (s : ByteArray) : Nat := min 9 (s.size + 1)
def splitV (s : ByteArray) : List ByteArray := Lib.splitB blankB 0 (atMostN s - 1) s
theorem sgen_any (s : ByteArray) (w : World) (hs : s.size < 4294967281) :
    Calls Tryz.prog 27 #[.string s, .string blankB, .int .i64 ((0 : Nat) : Int), .int .i64 9] w fun e w' => e = .returned (.slice (some ⟨w.heap.size, 0, none⟩) (splitV s).length (atMostN s)) ∧ w' = w.alloc (.cells (Lib.cellsOf (splitV s) (atMostN s)) 9) :=
  Any.strings_genSplit_core Go.Proofs.Tryz.lays221 (by kernel_rfl) s blankB 0 9 (atMostN s) w hs (by decide) (Nat.zero_le _)
    (fun x c _ => (sindex_one x 32 _).mono fun e w' h => ⟨by rw [h.1]; show _ = Ending.returned (.int .i64 (Lib.index x.data.toList [32])); rw [Lib.index_one], h.2⟩)
    ((Go.Proofs.Tryz.strings_Count_one s 32 w).mono fun e w' h => ⟨by rw [h.1]; show _ = Ending.returned (.int .i64 ((Lib.count s.data.toList [32] : Nat) : Int)); rw [Lib.count_one]; rfl, h.2⟩)
    (by decide) (by decide) (by rw [if_neg (by decide)]; unfold atMostN; omega)
theorem splitN_any (s : ByteArray) (w : World) (hs : s.size < 4294967281) :
    Calls Tryz.prog 13 #[.string s, .string blankB, .int .i64 9] w fun e w' => e = .returned (.slice (some ⟨w.heap.size, 0, none⟩) (splitV s).length (atMostN s)) ∧ w' = w.alloc (.cells (Lib.cellsOf (splitV s) (atMostN s)) 9) := by
  have H := sgen_any s w hs
  go_enter Tryz.func13, Tryz.ntmps13
  go_wp2_with fail
  refine H.mono ?_
  rintro e w1 ⟨rfl, rfl⟩
  go_wp2_with fail
  go_ret
  exact ⟨rfl, rfl⟩
theorem split_le (s : ByteArray) : (splitV s).length ≤ atMostN s := by
  have := Lib.splitB_length_le blankB 0 (atMostN s - 1) s
  unfold splitV
  have : 1 ≤ atMostN s := by unfold atMostN; omega
  omega
theorem split_cell (s : ByteArray) (w : World) (j : Nat) (hj : j < (splitV s).length) : (w.alloc (.cells (Lib.cellsOf (splitV s) (atMostN s)) 9)).cell? ⟨w.heap.size, j, none⟩ = some (.string ((splitV s).getD j ⟨#[]⟩)) := by
  rw [World.cell?_alloc_at _ _ _ _ rfl]
  simp only [Lib.cellsOf, List.getElem?_toArray]
  rw [List.getElem?_append_left (by simpa using hj), List.getElem?_map]
  simp [List.getD, hj]
/-- The pieces' bytes. -/
def PL (P : List ByteArray) : List (List UInt8) := P.map (·.data.toList)
theorem PL_len (P : List ByteArray) : (PL P).length = P.length := by simp [PL]
theorem PL_get (P : List ByteArray) (j : Nat) (hj : j < P.length) : (PL P).getD j [] = (P.getD j ⟨#[]⟩).data.toList := by simp [PL, List.getD, hj]
/-- All pieces, or nine of more. -/
theorem split_says (s : ByteArray) : PL (splitV s) = pcs s.data.toList ∨ ((splitV s).length = 9 ∧ 9 < (pcs s.data.toList).length) := by
  have e : PL (splitV s) = Lib.splitK [32] 0 (atMostN s - 1) s.data.toList := Lib.splitB_data _ _ _ _
  rcases split_pcs (atMostN s - 1) s.data.toList with h | ⟨h1, h2⟩
  · exact .inl (e.trans h)
  · have l1 := pcs_len s.data.toList
    have l2 : s.data.toList.length = s.size := by simp
    have l3 := PL_len (splitV s)
    rw [e, h1] at l3
    unfold atMostN at *
    exact .inr ⟨by omega, by omega⟩
theorem splitK_size : ∀ (k : Nat) (l : List UInt8), ∀ p ∈ Lib.splitK [32] 0 k l, p.length ≤ l.length
  | 0, l, p, h => by simp [Lib.splitK] at h; subst h; exact Nat.le_refl _
  | k + 1, l, p, h => by
    unfold Lib.splitK at h
    split at h
    · simp at h; subst h; exact Nat.le_refl _
    · rcases List.mem_cons.1 h with rfl | h
      · simp; omega
      · have := splitK_size k _ p h
        simp at this
        omega
theorem split_size (s : ByteArray) (j : Nat) (hj : j < (splitV s).length) : ((splitV s).getD j ⟨#[]⟩).size ≤ s.size := by
  have e : PL (splitV s) = Lib.splitK [32] 0 (atMostN s - 1) s.data.toList := Lib.splitB_data _ _ _ _
  have m : (PL (splitV s)).getD j [] ∈ PL (splitV s) := by
    have h2 : j < (PL (splitV s)).length := by rw [PL_len]; exact hj
    simp [List.getD, h2]
  have := splitK_size (atMostN s - 1) s.data.toList ((PL (splitV s)).getD j []) (by rw [← e]; exact m)
  rw [PL_get _ _ hj] at this
  simpa using this
end Go.Proofs.YteifpplemohdcaaGreatDoor
