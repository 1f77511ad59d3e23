/-
  lex.first: the token that a text begins with.
-/
import Derived.Test.YtdofnjlnleofjaaDoorLf
import Derived.Test.YtdofnjlnleofjaaDoorSa
namespace Go.Proofs.YtdofnjlnleofjaaDoor
open Go.RowKit
set_option linter.unusedVariables false
def inL (l : List UInt8) (x : UInt8) : Bool := decide (0 ≤ Lib.indexByte l x)
def lowA : List UInt8 := [46, 45, 33, 60, 62]
def lowB : List UInt8 := [44, 59, 123, 125, 40, 41, 63, 43, 42]
def lowC : List UInt8 := [58, 61, 38, 124]
def numT (k : Nat) : Option Nat → Int × Int × Nat × Int
  | none => (91, 0, 0, 0)
  | some n => (0, 2, k, n)
/-- What a number is: an error, or a kind, a length, and its value. -/
def numM (d : List UInt8) : Int × Int × Nat × Int :=
  if (d.head?.map fun c => (c.toNat : Int) == 48) = some true ∧ 1 < d.length then (91, 0, 0, 0)
  else numT d.length (numU d 0)
/-- What a text begins with: an error, or a kind, a length, and its value. -/
def firstM : List UInt8 → Int × Int × Nat × Int
  | [] => (0, 0, 0, 0)
  | c :: l =>
    if lttI c.toNat then (0, 1, spanL wrdI (c :: l), 0)
    else if digI c.toNat then numM ((c :: l).take (spanL digI (c :: l)))
    else if inL lowA c then (if pairL (c :: l) then (0, 3, 2, 0) else (0, 3, 1, 0))
    else if inL lowB c then (0, 3, 1, 0)
    else if inL lowC c then (if pairL (c :: l) then (0, 3, 2, 0) else (90, 0, 0, 0))
    else (90, 0, 0, 0)
/-- What first answers. -/
def firstV (s : ByteArray) (r : Int × Int × Nat × Int) : Value := .tuple #[tokV r.2.1 (s.extract 0 r.2.2.1) r.2.2.2 0, .int .i64 r.1]
theorem low_any (l : List UInt8) (x : UInt8) (w : World) : Calls Tryd.prog 19 #[.string ⟨l.toArray⟩, .int .u8 (x.toNat : Int)] w fun e w' => e = .returned (.int .i64 (Lib.indexByte l x)) ∧ w' = w := by
  have h := Tryd.strings_IndexByte ⟨l.toArray⟩ (x.toNat : Int) w
  have e : ((x.toNat : Int).toNat).toUInt8 = x := by simp
  rw [e] at h
  exact h
theorem below4 {w w1 : World} {t : TypeId} {xs : Array Value} (hb : Below (w.alloc (.cells xs t)).heap.size (w.alloc (.cells xs t)) w1) : Below w.heap.size w w1 := (Below.alloc (Below.refl _ _) (Nat.le_refl _) _).trans (hb.mono (by simp))
theorem bcell {W w1 : World} (hb : Below W.heap.size W w1) : (∀ b o, b < W.heap.size → w1.cell? ⟨b, o, none⟩ = W.cell? ⟨b, o, none⟩) ∧ (∀ b o, b < W.heap.size → w1.frozen? ⟨b, o, none⟩ = W.frozen? ⟨b, o, none⟩) :=
  ⟨fun b o h => hb.cell (p := ⟨b, o, none⟩) h, fun b o h => hb.frozen (p := ⟨b, o, none⟩) h⟩
theorem tok_later {w wr w1 : World} (h : TokAt wr w) (hb : Below wr.heap.size wr w1) (hz : w.heap.size < wr.heap.size) : TokAt w1 w :=
  ⟨(hb.cell (p := ⟨w.heap.size, 0, none⟩) hz).trans h.1, (hb.cell (p := ⟨w.heap.size, 1, none⟩) hz).trans h.2.1, (hb.cell (p := ⟨w.heap.size, 2, none⟩) hz).trans h.2.2.1, (hb.cell (p := ⟨w.heap.size, 3, none⟩) hz).trans h.2.2.2.1, (hb.frozen (p := ⟨w.heap.size, 0, none⟩) hz).trans h.2.2.2.2.1, (hb.frozen (p := ⟨w.heap.size, 1, none⟩) hz).trans h.2.2.2.2.2.1, (hb.frozen (p := ⟨w.heap.size, 2, none⟩) hz).trans h.2.2.2.2.2.2.1, (hb.frozen (p := ⟨w.heap.size, 3, none⟩) hz).trans h.2.2.2.2.2.2.2.1, h.2.2.2.2.2.2.2.2.trans (hb.mono (by omega))⟩
theorem list_ne (s : ByteArray) (h : 0 < s.size) : s.toList.isEmpty = false := by
  rw [ByteArray.toList_eq]
  cases e : s.data.toList with
  | nil => have := len_of s; rw [e] at this; simp at this; omega
  | cons a l => rfl
theorem nil_size : (ByteArray.mk #[]).size = 0 := rfl
theorem cut_none (s : ByteArray) : s.extract 0 0 = ⟨#[]⟩ := by
  apply ByteArray.ext
  simp
set_option maxRecDepth 100000 in
theorem first_none (w : World) : Calls Tryd.prog 15 #[.string ⟨#[]⟩] w fun e w' => e = .returned (.tuple #[tokV 0 ⟨#[]⟩ 0 0, .int .i64 0]) ∧ Below w.heap.size w w' := by
  have T0 := tok_start w
  go_enter Tryd.func15, Tryd.ntmps15
  go_wp2_with fail
  refine bodyPost_ret (v := .tuple #[tokV 0 ⟨#[]⟩ 0 0, .int .i64 0]) (by simp [results, Tryd.results15, go_sem, *]) rfl ⟨rfl, ?_⟩
  first | exact T0.2.2.2.2.2.2.2.2 | exact set4 T0.2.2.2.2.2.2.2.2 (Nat.le_refl _) _ _ _ _
set_option maxRecDepth 100000 in
theorem first_word (s : ByteArray) (w : World) (hp : 0 < s.size) (hs : s.size ≤ 140737488355328) (h : lttI (s[0].toNat : Int) = true) :
    Calls Tryd.prog 15 #[.string s] w fun e w' => e = .returned (.tuple #[tokV 1 (s.extract 0 (spanL wrdI s.data.toList)) 0 0, .int .i64 0]) ∧ Below w.heap.size w w' := by
  have hne := list_ne s hp
  have i0 : (0 : Int) < (s.size : Int) := by omega
  have T0 := tok_start w
  have H1 : Hid (∀ w, Calls Tryd.prog 10 #[.int .u8 (s[0].toNat : Int)] w fun e w' => e = .returned (.bool true) ∧ w' = w) := hideR fun w => by have := isLetter_any (s[0].toNat : Int) w; rw [h] at this; exact this
  have H2 : Hid (∀ w, _) := hideR fun w => span_word s w hs
  have LE : spanL wrdI s.data.toList ≤ s.size := by have := span_le wrdI s.data.toList; rw [len_of] at this; exact this
  generalize spanL wrdI s.data.toList = m at *
  have l1 : (0 : Int) ≤ (m : Int) := by omega
  have l2 : (m : Int) ≤ (s.size : Int) := by omega
  clear h
  go_enter Tryd.func15, Tryd.ntmps15
  go_wp2_with fail
  refine (H1.out _).mono ?_
  rintro e w1 ⟨rfl, rfl⟩
  go_wp2_with fail
  refine (H2.out _).mono ?_
  rintro e w1 ⟨rfl, rfl⟩
  go_wp2_with fail
  refine bodyPost_ret (v := .tuple #[tokV 1 (s.extract 0 m) 0 0, .int .i64 0]) (by simp [results, Tryd.results15, go_sem, *]) rfl ⟨rfl, ?_⟩
  first | exact Below.alloc (Below.refl _ _) (Nat.le_refl _) _ | exact set4 T0.2.2.2.2.2.2.2.2 (Nat.le_refl _) _ _ _ _
end Go.Proofs.YtdofnjlnleofjaaDoor
