/-
  lex.Next.
-/
import Derived.Test.YtdofnjlnleofjaaDoorLi
namespace Go.Proofs.YtdofnjlnleofjaaDoor
open Go.RowKit
set_option linter.unusedVariables false
/-- Where the token from a place on begins. -/
def begL (l : List UInt8) (a : Nat) : Nat := a + skipM false (l.drop a)
/-- What the token from a place on is. -/
def tokL (l : List UInt8) (a : Nat) : Int × Int × Nat × Int := firstM (l.drop (begL l a))
def nextW (s : ByteArray) (b : Nat) (r : Int × Int × Nat × Int) : Value :=
  if r.1 = 0 then .tuple #[tokV r.2.1 (s.extract b (b + r.2.2.1)) r.2.2.2 b, .int .i64 ((b + r.2.2.1 : Nat)), .int .i64 0]
  else .tuple #[tokV 0 ⟨#[]⟩ 0 0, .int .i64 b, .int .i64 r.1]
def nextV (s : ByteArray) (a : Nat) : Value := nextW s (begL s.data.toList a) (tokL s.data.toList a)
theorem nextW_ok (s : ByteArray) (b : Nat) (k : Int) (n : Nat) (m : Int) : nextW s b (0, k, n, m) = .tuple #[tokV k (s.extract b (b + n)) m b, .int .i64 ((b + n : Nat)), .int .i64 0] := rfl
theorem nextW_no (s : ByteArray) (b : Nat) (e k : Int) (n : Nat) (m : Int) (h : ¬ e = 0) : nextW s b (e, k, n, m) = .tuple #[tokV 0 ⟨#[]⟩ 0 0, .int .i64 b, .int .i64 e] := by
  unfold nextW
  rw [if_neg h]
theorem beg_le (l : List UInt8) (a : Nat) (h : a ≤ l.length) : a ≤ begL l a ∧ begL l a ≤ l.length := by
  have := skip_le false (l.drop a)
  rw [List.length_drop] at this
  unfold begL
  omega
theorem numM_len (d : List UInt8) : (numM d).2.2.1 ≤ d.length := by
  unfold numM
  split
  · exact Nat.zero_le _
  · cases numU d 0 with
    | none => exact Nat.zero_le _
    | some n => exact Nat.le_refl _
theorem pair_len : ∀ l : List UInt8, pairL l = true → 2 ≤ l.length
  | [], h => by simp [pairL] at h
  | [a], h => by simp [pairL] at h
  | a :: b :: l, _ => by simp
theorem firstM_len : ∀ l : List UInt8, (firstM l).2.2.1 ≤ l.length
  | [] => Nat.le_refl _
  | c :: l => by
    rw [firstM]
    split
    · exact span_le _ _
    · split
      · exact Nat.le_trans (numM_len _) (by rw [List.length_take]; omega)
      · split
        · split
          · rename_i q; exact pair_len _ q
          · simp
        · split
          · simp
          · split
            · split
              · rename_i q; exact pair_len _ q
              · simp
            · simp
theorem numM_err (d : List UInt8) : (numM d).1 = 91 ∨ (numM d).1 = 0 := by
  unfold numM
  split
  · exact .inl rfl
  · cases numU d 0 with
    | none => exact .inl rfl
    | some n => exact .inr rfl
theorem firstM_err : ∀ l : List UInt8, (firstM l).1 = 91 ∨ (firstM l).1 = 90 ∨ (firstM l).1 = 0
  | [] => .inr (.inr rfl)
  | c :: l => by
    rw [firstM]
    split
    · exact .inr (.inr rfl)
    · split
      · rcases numM_err (List.take (spanL digI (c :: l)) (c :: l)) with h | h
        · exact .inl h
        · exact .inr (.inr h)
      · split
        · split <;> exact .inr (.inr rfl)
        · split
          · exact .inr (.inr rfl)
          · split
            · split
              · exact .inr (.inr rfl)
              · exact .inr (.inl rfl)
            · exact .inr (.inl rfl)
theorem tok_len (l : List UInt8) (a : Nat) (h : a ≤ l.length) : begL l a + (tokL l a).2.2.1 ≤ l.length := by
  have := firstM_len (l.drop (begL l a))
  rw [List.length_drop] at this
  have := beg_le l a h
  unfold tokL
  omega
theorem extract_from (s : ByteArray) (b k : Nat) (h : b + k ≤ s.size) : (s.extract b s.size).extract 0 k = s.extract b (b + k) := by
  apply ByteArray.ext
  simp only [ByteArray.data_extract, Array.extract_extract]
  congr 1
  have : s.data.size = s.size := rfl
  omega
theorem drop_list (s : ByteArray) (b : Nat) : (s.extract b s.size).data.toList = s.data.toList.drop b := by
  rw [drop_bytes]
set_option maxRecDepth 100000 in
theorem next_out (s : ByteArray) (i : Int) (w : World) (hs : s.size ≤ 140737488355328) (h : i < 0 ∨ (s.size : Int) < i) :
    Calls Tryd.prog 9 #[.string s, .int .i64 i] w fun e w' => e = .returned (.tuple #[tokV 0 ⟨#[]⟩ 0 0, .int .i64 0, .int .i64 2]) ∧ Below w.heap.size w w' := by
  by_cases h0 : i < 0
  · go_enter Tryd.func9, Tryd.ntmps9
    go_wp2_with fail
    refine bodyPost_ret (v := .tuple #[tokV 0 ⟨#[]⟩ 0 0, .int .i64 0, .int .i64 2]) (by simp [results, Tryd.results9, go_sem, *]) rfl ⟨rfl, ?_⟩
    exact Below.alloc (Below.refl _ _) (Nat.le_refl _) _
  · have h1 : (s.size : Int) < i := by omega
    clear h
    go_enter Tryd.func9, Tryd.ntmps9
    go_wp2_with fail
    refine bodyPost_ret (v := .tuple #[tokV 0 ⟨#[]⟩ 0 0, .int .i64 0, .int .i64 2]) (by simp [results, Tryd.results9, go_sem, *]) rfl ⟨rfl, ?_⟩
    exact Below.alloc (Below.refl _ _) (Nat.le_refl _) _
set_option maxRecDepth 100000 in
set_option maxHeartbeats 1000000 in
theorem next_in (s : ByteArray) (a : Nat) (w : World) (ha : a ≤ s.size) (hs : s.size ≤ 140737488355328) :
    Calls Tryd.prog 9 #[.string s, .int .i64 a] w fun e w' => e = .returned (nextV s a) ∧ Below w.heap.size w w' := by
  have i0 : ¬ (a : Int) < 0 := by omega
  have i1 : ¬ (s.size : Int) < (a : Int) := by omega
  have i2 : (0 : Int) ≤ (a : Int) := by omega
  have i3 : (a : Int) ≤ (s.size : Int) := by omega
  have HS : Hid (∀ w, Calls Tryd.prog 14 #[.string (s.extract a s.size)] w fun e w' => e = .returned (.int .i64 (skipM false (s.data.toList.drop a))) ∧ w' = w) := hideR fun w => by
    have := skipped_any (s.extract a s.size) w (by simp; omega)
    rw [drop_list] at this
    exact this
  obtain ⟨b0, b1⟩ := beg_le s.data.toList a (by rw [len_of]; exact ha)
  have t0 := tok_len s.data.toList a (by rw [len_of]; exact ha)
  rw [len_of] at b1 t0
  have e1 : (a : Int) + (skipM false (s.data.toList.drop a) : Int) = (begL s.data.toList a : Int) := by unfold begL; omega
  have HF : Hid (∀ w, Calls Tryd.prog 15 #[.string (s.extract (begL s.data.toList a) s.size)] w fun e w' => e = .returned (.tuple #[tokV (tokL s.data.toList a).2.1 (s.extract (begL s.data.toList a) (begL s.data.toList a + (tokL s.data.toList a).2.2.1)) (tokL s.data.toList a).2.2.2 0, .int .i64 (tokL s.data.toList a).1]) ∧ Below w.heap.size w w') := hideR fun w => by
    have := first_any (s.extract (begL s.data.toList a) s.size) w (by simp; omega)
    rw [drop_list] at this
    unfold firstV at this
    rw [show firstM (s.data.toList.drop (begL s.data.toList a)) = tokL s.data.toList a from rfl, extract_from s _ _ t0] at this
    exact this
  unfold nextV
  have T0 := hideR (tok_start w)
  generalize tokL s.data.toList a = r at *
  generalize begL s.data.toList a = b at *
  generalize skipM false (s.data.toList.drop a) = k at *
  have k0 : (0 : Int) ≤ (b : Int) := by omega
  have k1 : (b : Int) ≤ (s.size : Int) := by omega
  obtain ⟨r0, r1, r2, r3⟩ := r
  simp only at HF t0
  by_cases c : r0 = 0
  · subst c
    rw [nextW_ok]
    go_enter Tryd.func9, Tryd.ntmps9
    go_wp2_with fail
    refine (HS.out _).mono ?_
    rintro e w1 ⟨rfl, rfl⟩
    go_wp2_with fail
    have hz : w.heap.size < (w.alloc (.cells #[.int .u8 0, .string ⟨#[]⟩, .int .i64 0, .int .i64 0] 30)).heap.size := by simp
    generalize w.alloc (.cells #[.int .u8 0, .string ⟨#[]⟩, .int .i64 0, .int .i64 0] 30) = W at *
    refine (HF.out _).mono ?_
    rintro e w1 ⟨rfl, hb⟩
    obtain ⟨a0, a1, a2, a3, f0, f1, f2, f3, B0⟩ := tok_later T0.out hb hz
    have hz1 : w.heap.size < w1.heap.size := Nat.lt_of_lt_of_le hz hb.size
    clear hb hz T0
    go_wp2_with fail
    have N0 : (w1.alloc (.cells #[.int .u8 r1, .string (s.extract b (b + r2)), .int .i64 r3, .int .i64 b] 30)).cell? ⟨w1.heap.size, 0, none⟩ = some (.int .u8 r1) := by simp [go_sem]
    have N1 : (w1.alloc (.cells #[.int .u8 r1, .string (s.extract b (b + r2)), .int .i64 r3, .int .i64 b] 30)).cell? ⟨w1.heap.size, 1, none⟩ = some (.string (s.extract b (b + r2))) := by simp [go_sem]
    have N2 : (w1.alloc (.cells #[.int .u8 r1, .string (s.extract b (b + r2)), .int .i64 r3, .int .i64 b] 30)).cell? ⟨w1.heap.size, 2, none⟩ = some (.int .i64 r3) := by simp [go_sem]
    have N3 : (w1.alloc (.cells #[.int .u8 r1, .string (s.extract b (b + r2)), .int .i64 r3, .int .i64 b] 30)).cell? ⟨w1.heap.size, 3, none⟩ = some (.int .i64 b) := by simp [go_sem]
    obtain ⟨a0, a1, a2, a3, f0, f1, f2, f3, B0⟩ := tok_later (w1 := w1.alloc (.cells #[.int .u8 r1, .string (s.extract b (b + r2)), .int .i64 r3, .int .i64 b] 30)) ⟨a0, a1, a2, a3, f0, f1, f2, f3, B0⟩ (Below.alloc (Below.refl _ _) (Nat.le_refl _) _) hz1
    have hne : ¬ w1.heap.size = w.heap.size := by omega
    have hne' : ¬ w.heap.size = w1.heap.size := by omega
    generalize w1.alloc (.cells #[.int .u8 r1, .string (s.extract b (b + r2)), .int .i64 r3, .int .i64 b] 30) = W2 at *
    generalize w1.heap.size = B1 at *
    have ez : (s.extract b (b + r2)).size = r2 := by simp; omega
    have e2 : IntKind.i64.wrap ((b : Int) + (r2 : Int)) = ((b + r2 : Nat) : Int) := by rw [IntKind.wrap_i64]; omega
    have e3 : wrap64 ((b : Int) + (r2 : Int)) = ((b + r2 : Nat) : Int) := by simp only [wrap64]; omega
    go_region
    all_goals go_wp2_with fail
    refine bodyPost_ret (v := .tuple #[tokV r1 (s.extract b (b + r2)) r3 b, .int .i64 ((b + r2 : Nat)), .int .i64 0]) (by simp [results, Tryd.results9, go_sem, *]) rfl ⟨rfl, ?_⟩
    first | exact B0 | exact below_drewN B0 _ | exact set4 B0 (Nat.le_refl _) _ _ _ _ | exact below_drewN (set4 B0 (Nat.le_refl _) _ _ _ _) _ | exact set4 (below_drewN B0 _) (Nat.le_refl _) _ _ _ _
  · rw [nextW_no _ _ _ _ _ _ c]
    have c' : ¬ (r0 == 0) = true := by simpa using c
    go_enter Tryd.func9, Tryd.ntmps9
    go_wp2_with fail
    refine (HS.out _).mono ?_
    rintro e w1 ⟨rfl, rfl⟩
    go_wp2_with fail
    have hz : w.heap.size < (w.alloc (.cells #[.int .u8 0, .string ⟨#[]⟩, .int .i64 0, .int .i64 0] 30)).heap.size := by simp
    generalize w.alloc (.cells #[.int .u8 0, .string ⟨#[]⟩, .int .i64 0, .int .i64 0] 30) = W at *
    refine (HF.out _).mono ?_
    rintro e w1 ⟨rfl, hb⟩
    obtain ⟨a0, a1, a2, a3, f0, f1, f2, f3, B0⟩ := tok_later T0.out hb hz
    have hz1 : w.heap.size < w1.heap.size := Nat.lt_of_lt_of_le hz hb.size
    clear hb hz T0
    go_wp2_with fail
    refine bodyPost_ret (v := .tuple #[tokV 0 ⟨#[]⟩ 0 0, .int .i64 b, .int .i64 r0]) (by simp [results, Tryd.results9, go_sem, *]) rfl ⟨rfl, ?_⟩
    first | exact B0 | exact set4 B0 (Nat.le_refl _) _ _ _ _ | exact set4 (Below.alloc B0 (Nat.le_of_lt hz1) _) (Nat.le_refl _) _ _ _ _ | exact Below.alloc B0 (Nat.le_of_lt hz1) _ | exact (set4 B0 (Nat.le_refl _) _ _ _ _).alloc (set4 B0 (Nat.le_refl _) _ _ _ _).size _
end Go.Proofs.YtdofnjlnleofjaaDoor
