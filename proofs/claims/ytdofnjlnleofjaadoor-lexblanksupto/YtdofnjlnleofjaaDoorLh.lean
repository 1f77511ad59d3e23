/-
  lex.first: signs.
-/
import Derived.Test.YtdofnjlnleofjaaDoorLg
namespace Go.Proofs.YtdofnjlnleofjaaDoor
open Go.RowKit
set_option linter.unusedVariables false
set_option maxRecDepth 100000 in
set_option maxHeartbeats 1000000 in
theorem first_pairA (s : ByteArray) (w : World) (hp : 0 < s.size) (hs : s.size ≤ 140737488355328) (hl : lttI (s[0].toNat : Int) = false) (hd : digI (s[0].toNat : Int) = false) (hA : inL lowA s[0] = true) (hq : pairL s.data.toList = true) :
    Calls Tryd.prog 15 #[.string s] w fun e w' => e = .returned (.tuple #[tokV 3 (s.extract 0 2) 0 0, .int .i64 0]) ∧ Below w.heap.size w w' := by
  have hne := list_ne s hp
  have i0 : (0 : Int) < (s.size : Int) := by omega
  have T0 := hideR (tok_start w)
  have i2 : (2 : Int) ≤ (s.size : Int) := by
    by_cases q : 1 < s.size
    · omega
    · rw [pair_short s q] at hq; simp at hq
  have H1 : Hid (∀ w, Calls Tryd.prog 10 #[.int .u8 (s[0].toNat : Int)] w fun e w' => e = .returned (.bool false) ∧ w' = w) := hideR fun w => by have := isLetter_any (s[0].toNat : Int) w; rw [hl] at this; exact this
  have H2 : Hid (∀ w, Calls Tryd.prog 16 #[.int .u8 (s[0].toNat : Int)] w fun e w' => e = .returned (.bool false) ∧ w' = w) := hideR fun w => by have := isDigit_any (s[0].toNat : Int) w; rw [hd] at this; exact this
  have KA : Hid (∀ w, _) := hideR fun w => low_any lowA s[0] w
  have JA : (0 : Int) ≤ Lib.indexByte lowA s[0] := by simpa [inL] using hA
  generalize Lib.indexByte lowA s[0] = jA at *
  have P := hideR (fun w => isPair_any s w hs)
  rw [hq] at P
  clear hl hd hA hq
  go_enter Tryd.func15, Tryd.ntmps15
  go_wp2_with fail
  refine (H1.out _).mono ?_
  rintro e w1 ⟨rfl, rfl⟩
  go_wp2_with fail
  refine (H2.out _).mono ?_
  rintro e w1 ⟨rfl, rfl⟩
  go_wp2_with fail
  refine (KA.out _).mono ?_
  rintro e w1 ⟨rfl, rfl⟩
  go_wp2_with fail
  have hz : w.heap.size < (w.alloc (.cells #[.int .u8 0, .string ⟨#[]⟩, .int .i64 0, .int .i64 0] 30)).heap.size := by simp
  generalize w.alloc (.cells #[.int .u8 0, .string ⟨#[]⟩, .int .i64 0, .int .i64 0] 30) = W at *
  refine (P.out _).mono ?_
  rintro e w1 ⟨rfl, hb⟩
  obtain ⟨a0, a1, a2, a3, f0, f1, f2, f3, B0⟩ := tok_later T0.out hb hz
  clear hb hz T0
  go_wp2_with fail
  refine bodyPost_ret (v := .tuple #[tokV 3 (s.extract 0 2) 0 0, .int .i64 0]) (by simp [results, Tryd.results15, go_sem, *]) rfl ⟨rfl, ?_⟩
  first | exact B0 | exact set4 B0 (Nat.le_refl _) _ _ _ _
set_option maxRecDepth 100000 in
set_option maxHeartbeats 1000000 in
theorem first_oneA (s : ByteArray) (w : World) (hp : 0 < s.size) (hs : s.size ≤ 140737488355328) (hl : lttI (s[0].toNat : Int) = false) (hd : digI (s[0].toNat : Int) = false) (hA : inL lowA s[0] = true) (hq : pairL s.data.toList = false) :
    Calls Tryd.prog 15 #[.string s] w fun e w' => e = .returned (.tuple #[tokV 3 (s.extract 0 1) 0 0, .int .i64 0]) ∧ Below w.heap.size w w' := by
  have hne := list_ne s hp
  have i0 : (0 : Int) < (s.size : Int) := by omega
  have T0 := hideR (tok_start w)
  have i2 : (1 : Int) ≤ (s.size : Int) := by omega
  have H1 : Hid (∀ w, Calls Tryd.prog 10 #[.int .u8 (s[0].toNat : Int)] w fun e w' => e = .returned (.bool false) ∧ w' = w) := hideR fun w => by have := isLetter_any (s[0].toNat : Int) w; rw [hl] at this; exact this
  have H2 : Hid (∀ w, Calls Tryd.prog 16 #[.int .u8 (s[0].toNat : Int)] w fun e w' => e = .returned (.bool false) ∧ w' = w) := hideR fun w => by have := isDigit_any (s[0].toNat : Int) w; rw [hd] at this; exact this
  have KA : Hid (∀ w, _) := hideR fun w => low_any lowA s[0] w
  have JA : (0 : Int) ≤ Lib.indexByte lowA s[0] := by simpa [inL] using hA
  generalize Lib.indexByte lowA s[0] = jA at *
  have P := hideR (fun w => isPair_any s w hs)
  rw [hq] at P
  clear hl hd hA hq
  go_enter Tryd.func15, Tryd.ntmps15
  go_wp2_with fail
  refine (H1.out _).mono ?_
  rintro e w1 ⟨rfl, rfl⟩
  go_wp2_with fail
  refine (H2.out _).mono ?_
  rintro e w1 ⟨rfl, rfl⟩
  go_wp2_with fail
  refine (KA.out _).mono ?_
  rintro e w1 ⟨rfl, rfl⟩
  go_wp2_with fail
  have hz : w.heap.size < (w.alloc (.cells #[.int .u8 0, .string ⟨#[]⟩, .int .i64 0, .int .i64 0] 30)).heap.size := by simp
  generalize w.alloc (.cells #[.int .u8 0, .string ⟨#[]⟩, .int .i64 0, .int .i64 0] 30) = W at *
  refine (P.out _).mono ?_
  rintro e w1 ⟨rfl, hb⟩
  obtain ⟨a0, a1, a2, a3, f0, f1, f2, f3, B0⟩ := tok_later T0.out hb hz
  clear hb hz T0
  go_wp2_with fail
  refine bodyPost_ret (v := .tuple #[tokV 3 (s.extract 0 1) 0 0, .int .i64 0]) (by simp [results, Tryd.results15, go_sem, *]) rfl ⟨rfl, ?_⟩
  first | exact B0 | exact set4 B0 (Nat.le_refl _) _ _ _ _
set_option maxRecDepth 100000 in
set_option maxHeartbeats 1000000 in
theorem first_oneB (s : ByteArray) (w : World) (hp : 0 < s.size) (hs : s.size ≤ 140737488355328) (hl : lttI (s[0].toNat : Int) = false) (hd : digI (s[0].toNat : Int) = false) (hA : inL lowA s[0] = false) (hB : inL lowB s[0] = true) :
    Calls Tryd.prog 15 #[.string s] w fun e w' => e = .returned (.tuple #[tokV 3 (s.extract 0 1) 0 0, .int .i64 0]) ∧ Below w.heap.size w w' := by
  have hne := list_ne s hp
  have i0 : (0 : Int) < (s.size : Int) := by omega
  have T0 := hideR (tok_start w)
  have i2 : (1 : Int) ≤ (s.size : Int) := by omega
  have H1 : Hid (∀ w, Calls Tryd.prog 10 #[.int .u8 (s[0].toNat : Int)] w fun e w' => e = .returned (.bool false) ∧ w' = w) := hideR fun w => by have := isLetter_any (s[0].toNat : Int) w; rw [hl] at this; exact this
  have H2 : Hid (∀ w, Calls Tryd.prog 16 #[.int .u8 (s[0].toNat : Int)] w fun e w' => e = .returned (.bool false) ∧ w' = w) := hideR fun w => by have := isDigit_any (s[0].toNat : Int) w; rw [hd] at this; exact this
  have KA : Hid (∀ w, _) := hideR fun w => low_any lowA s[0] w
  have JA : ¬ (0 : Int) ≤ Lib.indexByte lowA s[0] := by simpa [inL] using hA
  generalize Lib.indexByte lowA s[0] = jA at *
  have KB : Hid (∀ w, _) := hideR fun w => low_any lowB s[0] w
  have JB : (0 : Int) ≤ Lib.indexByte lowB s[0] := by simpa [inL] using hB
  generalize Lib.indexByte lowB s[0] = jB at *
  clear hl hd hA hB
  go_enter Tryd.func15, Tryd.ntmps15
  go_wp2_with fail
  refine (H1.out _).mono ?_
  rintro e w1 ⟨rfl, rfl⟩
  go_wp2_with fail
  refine (H2.out _).mono ?_
  rintro e w1 ⟨rfl, rfl⟩
  go_wp2_with fail
  refine (KA.out _).mono ?_
  rintro e w1 ⟨rfl, rfl⟩
  go_wp2_with fail
  refine (KB.out _).mono ?_
  rintro e w1 ⟨rfl, rfl⟩
  go_wp2_with fail
  refine bodyPost_ret (v := .tuple #[tokV 3 (s.extract 0 1) 0 0, .int .i64 0]) (by simp [results, Tryd.results15, go_sem, *]) rfl ⟨rfl, ?_⟩
  first | exact Below.alloc (Below.refl _ _) (Nat.le_refl _) _ | exact set4 T0.out.2.2.2.2.2.2.2.2 (Nat.le_refl _) _ _ _ _
set_option maxRecDepth 100000 in
set_option maxHeartbeats 1000000 in
theorem first_pairC (s : ByteArray) (w : World) (hp : 0 < s.size) (hs : s.size ≤ 140737488355328) (hl : lttI (s[0].toNat : Int) = false) (hd : digI (s[0].toNat : Int) = false) (hA : inL lowA s[0] = false) (hB : inL lowB s[0] = false) (hC : inL lowC s[0] = true) (hq : pairL s.data.toList = true) :
    Calls Tryd.prog 15 #[.string s] w fun e w' => e = .returned (.tuple #[tokV 3 (s.extract 0 2) 0 0, .int .i64 0]) ∧ Below w.heap.size w w' := by
  have hne := list_ne s hp
  have i0 : (0 : Int) < (s.size : Int) := by omega
  have T0 := hideR (tok_start w)
  have i2 : (2 : Int) ≤ (s.size : Int) := by
    by_cases q : 1 < s.size
    · omega
    · rw [pair_short s q] at hq; simp at hq
  have H1 : Hid (∀ w, Calls Tryd.prog 10 #[.int .u8 (s[0].toNat : Int)] w fun e w' => e = .returned (.bool false) ∧ w' = w) := hideR fun w => by have := isLetter_any (s[0].toNat : Int) w; rw [hl] at this; exact this
  have H2 : Hid (∀ w, Calls Tryd.prog 16 #[.int .u8 (s[0].toNat : Int)] w fun e w' => e = .returned (.bool false) ∧ w' = w) := hideR fun w => by have := isDigit_any (s[0].toNat : Int) w; rw [hd] at this; exact this
  have KA : Hid (∀ w, _) := hideR fun w => low_any lowA s[0] w
  have JA : ¬ (0 : Int) ≤ Lib.indexByte lowA s[0] := by simpa [inL] using hA
  generalize Lib.indexByte lowA s[0] = jA at *
  have KB : Hid (∀ w, _) := hideR fun w => low_any lowB s[0] w
  have JB : ¬ (0 : Int) ≤ Lib.indexByte lowB s[0] := by simpa [inL] using hB
  generalize Lib.indexByte lowB s[0] = jB at *
  have KC : Hid (∀ w, _) := hideR fun w => low_any lowC s[0] w
  have JC : (0 : Int) ≤ Lib.indexByte lowC s[0] := by simpa [inL] using hC
  generalize Lib.indexByte lowC s[0] = jC at *
  have P := hideR (fun w => isPair_any s w hs)
  rw [hq] at P
  clear hl hd hA hB hC hq
  go_enter Tryd.func15, Tryd.ntmps15
  go_wp2_with fail
  refine (H1.out _).mono ?_
  rintro e w1 ⟨rfl, rfl⟩
  go_wp2_with fail
  refine (H2.out _).mono ?_
  rintro e w1 ⟨rfl, rfl⟩
  go_wp2_with fail
  refine (KA.out _).mono ?_
  rintro e w1 ⟨rfl, rfl⟩
  go_wp2_with fail
  refine (KB.out _).mono ?_
  rintro e w1 ⟨rfl, rfl⟩
  go_wp2_with fail
  refine (KC.out _).mono ?_
  rintro e w1 ⟨rfl, rfl⟩
  go_wp2_with fail
  have hz : w.heap.size < (w.alloc (.cells #[.int .u8 0, .string ⟨#[]⟩, .int .i64 0, .int .i64 0] 30)).heap.size := by simp
  generalize w.alloc (.cells #[.int .u8 0, .string ⟨#[]⟩, .int .i64 0, .int .i64 0] 30) = W at *
  refine (P.out _).mono ?_
  rintro e w1 ⟨rfl, hb⟩
  obtain ⟨a0, a1, a2, a3, f0, f1, f2, f3, B0⟩ := tok_later T0.out hb hz
  clear hb hz T0
  go_wp2_with fail
  refine bodyPost_ret (v := .tuple #[tokV 3 (s.extract 0 2) 0 0, .int .i64 0]) (by simp [results, Tryd.results15, go_sem, *]) rfl ⟨rfl, ?_⟩
  first | exact B0 | exact set4 B0 (Nat.le_refl _) _ _ _ _
set_option maxRecDepth 100000 in
set_option maxHeartbeats 1000000 in
theorem first_wrongC (s : ByteArray) (w : World) (hp : 0 < s.size) (hs : s.size ≤ 140737488355328) (hl : lttI (s[0].toNat : Int) = false) (hd : digI (s[0].toNat : Int) = false) (hA : inL lowA s[0] = false) (hB : inL lowB s[0] = false) (hC : inL lowC s[0] = true) (hq : pairL s.data.toList = false) :
    Calls Tryd.prog 15 #[.string s] w fun e w' => e = .returned (.tuple #[tokV 0 ⟨#[]⟩ 0 0, .int .i64 90]) ∧ Below w.heap.size w w' := by
  have hne := list_ne s hp
  have i0 : (0 : Int) < (s.size : Int) := by omega
  have T0 := hideR (tok_start w)
  have H1 : Hid (∀ w, Calls Tryd.prog 10 #[.int .u8 (s[0].toNat : Int)] w fun e w' => e = .returned (.bool false) ∧ w' = w) := hideR fun w => by have := isLetter_any (s[0].toNat : Int) w; rw [hl] at this; exact this
  have H2 : Hid (∀ w, Calls Tryd.prog 16 #[.int .u8 (s[0].toNat : Int)] w fun e w' => e = .returned (.bool false) ∧ w' = w) := hideR fun w => by have := isDigit_any (s[0].toNat : Int) w; rw [hd] at this; exact this
  have KA : Hid (∀ w, _) := hideR fun w => low_any lowA s[0] w
  have JA : ¬ (0 : Int) ≤ Lib.indexByte lowA s[0] := by simpa [inL] using hA
  generalize Lib.indexByte lowA s[0] = jA at *
  have KB : Hid (∀ w, _) := hideR fun w => low_any lowB s[0] w
  have JB : ¬ (0 : Int) ≤ Lib.indexByte lowB s[0] := by simpa [inL] using hB
  generalize Lib.indexByte lowB s[0] = jB at *
  have KC : Hid (∀ w, _) := hideR fun w => low_any lowC s[0] w
  have JC : (0 : Int) ≤ Lib.indexByte lowC s[0] := by simpa [inL] using hC
  generalize Lib.indexByte lowC s[0] = jC at *
  have P := hideR (fun w => isPair_any s w hs)
  rw [hq] at P
  clear hl hd hA hB hC hq
  go_enter Tryd.func15, Tryd.ntmps15
  go_wp2_with fail
  refine (H1.out _).mono ?_
  rintro e w1 ⟨rfl, rfl⟩
  go_wp2_with fail
  refine (H2.out _).mono ?_
  rintro e w1 ⟨rfl, rfl⟩
  go_wp2_with fail
  refine (KA.out _).mono ?_
  rintro e w1 ⟨rfl, rfl⟩
  go_wp2_with fail
  refine (KB.out _).mono ?_
  rintro e w1 ⟨rfl, rfl⟩
  go_wp2_with fail
  refine (KC.out _).mono ?_
  rintro e w1 ⟨rfl, rfl⟩
  go_wp2_with fail
  have hz : w.heap.size < (w.alloc (.cells #[.int .u8 0, .string ⟨#[]⟩, .int .i64 0, .int .i64 0] 30)).heap.size := by simp
  generalize w.alloc (.cells #[.int .u8 0, .string ⟨#[]⟩, .int .i64 0, .int .i64 0] 30) = W at *
  refine (P.out _).mono ?_
  rintro e w1 ⟨rfl, hb⟩
  obtain ⟨a0, a1, a2, a3, f0, f1, f2, f3, B0⟩ := tok_later T0.out hb hz
  clear hb hz T0
  go_wp2_with fail
  refine bodyPost_ret (v := .tuple #[tokV 0 ⟨#[]⟩ 0 0, .int .i64 90]) (by simp [results, Tryd.results15, go_sem, *]) rfl ⟨rfl, ?_⟩
  first | exact B0 | exact set4 B0 (Nat.le_refl _) _ _ _ _
set_option maxRecDepth 100000 in
set_option maxHeartbeats 1000000 in
theorem first_wrong (s : ByteArray) (w : World) (hp : 0 < s.size) (hs : s.size ≤ 140737488355328) (hl : lttI (s[0].toNat : Int) = false) (hd : digI (s[0].toNat : Int) = false) (hA : inL lowA s[0] = false) (hB : inL lowB s[0] = false) (hC : inL lowC s[0] = false) :
    Calls Tryd.prog 15 #[.string s] w fun e w' => e = .returned (.tuple #[tokV 0 ⟨#[]⟩ 0 0, .int .i64 90]) ∧ Below w.heap.size w w' := by
  have hne := list_ne s hp
  have i0 : (0 : Int) < (s.size : Int) := by omega
  have T0 := hideR (tok_start w)
  have H1 : Hid (∀ w, Calls Tryd.prog 10 #[.int .u8 (s[0].toNat : Int)] w fun e w' => e = .returned (.bool false) ∧ w' = w) := hideR fun w => by have := isLetter_any (s[0].toNat : Int) w; rw [hl] at this; exact this
  have H2 : Hid (∀ w, Calls Tryd.prog 16 #[.int .u8 (s[0].toNat : Int)] w fun e w' => e = .returned (.bool false) ∧ w' = w) := hideR fun w => by have := isDigit_any (s[0].toNat : Int) w; rw [hd] at this; exact this
  have KA : Hid (∀ w, _) := hideR fun w => low_any lowA s[0] w
  have JA : ¬ (0 : Int) ≤ Lib.indexByte lowA s[0] := by simpa [inL] using hA
  generalize Lib.indexByte lowA s[0] = jA at *
  have KB : Hid (∀ w, _) := hideR fun w => low_any lowB s[0] w
  have JB : ¬ (0 : Int) ≤ Lib.indexByte lowB s[0] := by simpa [inL] using hB
  generalize Lib.indexByte lowB s[0] = jB at *
  have KC : Hid (∀ w, _) := hideR fun w => low_any lowC s[0] w
  have JC : ¬ (0 : Int) ≤ Lib.indexByte lowC s[0] := by simpa [inL] using hC
  generalize Lib.indexByte lowC s[0] = jC at *
  clear hl hd hA hB hC
  go_enter Tryd.func15, Tryd.ntmps15
  go_wp2_with fail
  refine (H1.out _).mono ?_
  rintro e w1 ⟨rfl, rfl⟩
  go_wp2_with fail
  refine (H2.out _).mono ?_
  rintro e w1 ⟨rfl, rfl⟩
  go_wp2_with fail
  refine (KA.out _).mono ?_
  rintro e w1 ⟨rfl, rfl⟩
  go_wp2_with fail
  refine (KB.out _).mono ?_
  rintro e w1 ⟨rfl, rfl⟩
  go_wp2_with fail
  refine (KC.out _).mono ?_
  rintro e w1 ⟨rfl, rfl⟩
  go_wp2_with fail
  refine bodyPost_ret (v := .tuple #[tokV 0 ⟨#[]⟩ 0 0, .int .i64 90]) (by simp [results, Tryd.results15, go_sem, *]) rfl ⟨rfl, ?_⟩
  first | exact Below.alloc (Below.refl _ _) (Nat.le_refl _) _ | exact set4 T0.out.2.2.2.2.2.2.2.2 (Nat.le_refl _) _ _ _ _
end Go.Proofs.YtdofnjlnleofjaaDoor
