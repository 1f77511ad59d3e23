/-
  Blanks and a remark more: what becomes of the tokens.
-/
import Derived.Test.YtdofnjlnleofjaaDoorMc
import Derived.Test.YtdofnjlnleofjaaDoorMr
import Derived.Test.YtdofnjlnleofjaaDoorMs
namespace Go.Proofs.YtdofnjlnleofjaaDoor
open Go.RowKit
set_option linter.unusedVariables false
theorem mate_ne (x : Int) : ¬ mateI x = 32 := by
  unfold mateI
  simp only [beq_iff_eq]
  split
  · omega
  · split
    · omega
    · split
      · omega
      · split <;> omega
/-- What skips a row of bytes and stops at a byte does so whatever comes behind it. -/
theorem skip_local (c : UInt8) (R R' : List UInt8) : ∀ (b : Bool) (A : List UInt8), skipM b (A ++ c :: R) = A.length → skipM b (A ++ c :: R') = A.length
  | true, [], h => by
    rw [List.nil_append, skipM] at h
    split at h <;> simp at h
  | false, [], h => by
    rw [List.nil_append, skipM] at h ⊢
    split at h
    · simp at h
    · rename_i q
      rw [if_neg q]
      split at h
      · simp at h
      · rename_i g
        rw [if_neg g]
        rfl
  | true, a :: A, h => by
    rw [List.cons_append, skipM] at h ⊢
    simp only [List.length_cons] at h ⊢
    split at h
    · rename_i q
      rw [if_pos q, skip_local c R R' false A (by omega)]
      omega
    · rename_i q
      rw [if_neg q, skip_local c R R' true A (by omega)]
      omega
  | false, a :: A, h => by
    rw [List.cons_append, skipM] at h ⊢
    simp only [List.length_cons] at h ⊢
    split at h
    · rename_i q
      rw [if_pos q, skip_local c R R' false A (by omega)]
      omega
    · rename_i q
      rw [if_neg q]
      split at h
      · rename_i g
        rw [if_pos g, skip_local c R R' true A (by omega)]
        omega
      · omega
def modeM : Bool → List UInt8 → Bool
  | b, [] => b
  | true, c :: l => if ((c.toNat : Int) == 10) = true then modeM false l else modeM true l
  | false, c :: l => if ((c.toNat : Int) == 35) = true then modeM true l else modeM false l
theorem hash_no (c : UInt8) (h : blankI (c.toNat : Int) = true) : ((c.toNat : Int) == 35) = false := by
  unfold blankI at h
  simp at h ⊢
  omega
/-- What is skipped whole is skipped whatever comes behind it. -/
theorem skip_through (Q R : List UInt8) : ∀ (b : Bool) (A : List UInt8), A.length ≤ skipM b (A ++ Q) → skipM b (A ++ R) = A.length + skipM (modeM b A) R
  | true, [], _ => by simp [modeM]
  | false, [], _ => by simp [modeM]
  | true, a :: A, h => by
    rw [List.cons_append, skipM] at h ⊢
    rw [modeM]
    simp only [List.length_cons] at h ⊢
    split at h
    · rename_i q
      rw [if_pos q, if_pos q, skip_through Q R false A (by omega)]
      omega
    · rename_i q
      rw [if_neg q, if_neg q, skip_through Q R true A (by omega)]
      omega
  | false, a :: A, h => by
    rw [List.cons_append, skipM] at h ⊢
    rw [modeM]
    simp only [List.length_cons] at h ⊢
    split at h
    · rename_i q
      rw [if_pos q, if_neg (by rw [hash_no a q]; decide), skip_through Q R false A (by omega)]
      omega
    · rename_i q
      rw [if_neg q]
      split at h
      · rename_i g
        rw [if_pos g, if_pos g, skip_through Q R true A (by omega)]
        omega
      · omega
theorem in_remark (R : List UInt8) : ∀ r : List UInt8, (∀ c ∈ r, ¬ c = 10) → skipM true (r ++ 10 :: R) = r.length + 1 + skipM false R
  | [], _ => by
    rw [List.nil_append, skipM, if_pos (by decide)]
    simp
  | c :: r, h => by
    have hc : ¬ ((c.toNat : Int) == 10) = true := by
      intro q
      apply h c (List.mem_cons_self ..)
      apply UInt8.toNat_inj.1
      simp only [beq_iff_eq] at q
      show c.toNat = 10
      omega
    rw [List.cons_append, skipM, if_neg hc, in_remark R r (fun d hd => h d (List.mem_cons_of_mem _ hd))]
    simp only [List.length_cons]
    omega
/-- A blank, a remark and a blank. -/
def moreL (r : List UInt8) : List UInt8 := 32 :: 35 :: (r ++ [10, 9])
theorem more_len (r : List UInt8) : (moreL r).length = r.length + 4 := by simp [moreL]
theorem more_skip (r R : List UInt8) (h : ∀ c ∈ r, ¬ c = 10) (m : Bool) : skipM m (moreL r ++ R) = (moreL r).length + skipM false R := by
  have e : moreL r ++ R = 32 :: 35 :: (r ++ 10 :: 9 :: R) := by simp [moreL]
  have k : skipM true (r ++ 10 :: 9 :: R) = r.length + 2 + skipM false R := by
    rw [in_remark _ r h, skipM, if_pos (by decide)]
    omega
  rw [e, more_len]
  cases m
  · rw [skipM, if_pos (by decide), skipM, if_neg (by decide), if_pos (by decide), k]
    omega
  · rw [skipM, if_neg (by decide), skipM, if_neg (by decide), k]
    omega
theorem span_ext (f : Int → Bool) (h32 : f 32 = false) (R R' : List UInt8) (hR : R'.head? = R.head? ∨ R'.head? = some 32) : ∀ T : List UInt8, spanL f (T ++ R) = T.length → spanL f (T ++ R') = T.length
  | [], h => by
    rw [List.nil_append] at h ⊢
    cases R' with
    | nil => rfl
    | cons d q =>
      rcases hR with e | e
      · cases R with
        | nil => cases e
        | cons c p =>
          injection e with e
          subst e
          rw [spanL] at h ⊢
          split at h
          · simp at h
          · rename_i g
            rw [if_neg g]
            rfl
      · injection e with e
        subst e
        rw [spanL, if_neg (by show ¬ f 32 = true; rw [h32]; decide)]
        rfl
  | c :: T, h => by
    rw [List.cons_append, spanL] at h ⊢
    split at h
    · rename_i g
      rw [if_pos g, span_ext f h32 R R' hR T (by simp at h; exact h)]
      rfl
    · simp at h
theorem pair_ext (c : UInt8) (R R' : List UInt8) (hR : R'.head? = R.head? ∨ R'.head? = some 32) (h : pairL (c :: R) = false) : pairL (c :: R') = false := by
  cases R' with
  | nil => rfl
  | cons d q =>
    rcases hR with e | e
    · cases R with
      | nil => cases e
      | cons a p =>
        injection e with e
        subst e
        exact h
    · injection e with e
      subst e
      show (((32 : UInt8).toNat : Int) == mateI c.toNat) = false
      have := mate_ne c.toNat
      simp only [beq_eq_false_iff_ne, ne_eq]
      exact fun h => this h.symm
/-- A token hangs on its bytes and the next one alone. -/
theorem first_ext (T R R' : List UInt8) (k n : Int) (h : firstM (T ++ R) = (0, k, T.length, n)) (hk : ¬ k = 0) (hR : R'.head? = R.head? ∨ R'.head? = some 32) : firstM (T ++ R') = (0, k, T.length, n) := by
  cases T with
  | nil =>
    exfalso
    have hp := firstM_pos R (by rw [List.nil_append] at h; rw [h]) (by rw [List.nil_append] at h; rw [h]; exact hk)
    rw [List.nil_append] at h
    rw [h] at hp
    simp at hp
  | cons c T =>
    rw [List.cons_append] at h ⊢
    by_cases a : lttI c.toNat = true
    · rw [firstM, if_pos a] at h ⊢
      injection h with _ h
      injection h with h1 h
      injection h with h2 h3
      have := span_ext wrdI (by decide) R R' hR (c :: T) h2
      rw [List.cons_append] at this
      rw [this, h1, h3]
    · by_cases b : digI c.toNat = true
      · rw [firstM, if_neg a, if_pos b] at h ⊢
        have le := span_le digI (c :: (T ++ R))
        obtain ⟨p1, p2⟩ := numM_pos _ (by rw [h])
        rw [h, List.length_take, Nat.min_eq_left le] at p1
        have sp := span_ext digI (by decide) R R' hR (c :: T) (by rw [List.cons_append]; exact p1.symm)
        rw [List.cons_append] at sp
        have t1 : List.take (spanL digI (c :: (T ++ R))) (c :: (T ++ R)) = c :: T := by
          rw [← p1, ← List.cons_append]
          exact List.take_left
        have t2 : List.take (spanL digI (c :: (T ++ R'))) (c :: (T ++ R')) = c :: T := by
          rw [sp, ← List.cons_append]
          exact List.take_left
        rw [t1] at h
        rw [t2]
        exact h
      · have e := first_sign c (T ++ R) (by simpa using a) (by simpa using b)
        have e' := first_sign c (T ++ R') (by simpa using a) (by simpa using b)
        rw [e] at h
        rw [e']
        by_cases q : ((inL lowA c || inL lowC c) && pairL (c :: (T ++ R))) = true
        · rw [if_pos q] at h
          injection h with _ h
          injection h with h1 h
          injection h with h2 h3
          obtain ⟨d, rfl⟩ : ∃ d, T = [d] := by
            match T, h2 with
            | [d], _ => exact ⟨d, rfl⟩
          have q' : ((inL lowA c || inL lowC c) && pairL (c :: ([d] ++ R'))) = true := q
          rw [if_pos q', h1, h3]
          rfl
        · rw [if_neg q] at h
          by_cases g : oneA.contains c = true
          · rw [if_pos g] at h
            injection h with _ h
            injection h with h1 h
            injection h with h2 h3
            have t0 : T = [] := by
              match T, h2 with
              | [], _ => rfl
            subst t0
            have q' : ¬ ((inL lowA c || inL lowC c) && pairL (c :: ([] ++ R'))) = true := by
              rw [List.nil_append] at q ⊢
              intro z
              rw [Bool.and_eq_true] at z
              apply q
              rw [Bool.and_eq_true]
              refine ⟨z.1, ?_⟩
              apply Classical.byContradiction
              intro y
              have := pair_ext c R R' hR (by simpa using y)
              rw [this] at z
              cases z.2
            rw [if_neg q', if_pos g, h1, h3]
            rfl
          · rw [if_neg g] at h
            have : (90 : Int) = 0 := congrArg (fun z : Int × Int × Nat × Int => z.1) h
            omega
end Go.Proofs.YtdofnjlnleofjaaDoor
