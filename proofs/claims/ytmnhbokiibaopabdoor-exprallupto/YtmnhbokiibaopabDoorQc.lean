/-
  All joined hold just if each holds, of lists.
-/
import Derived.Test.YtmnhbokiibaopabDoorQb
namespace Go.Proofs.YtmnhbokiibaopabDoor
open Go.RowKit
set_option linter.unusedVariables false
theorem kj13 (k : Int) : kindJ k (13, 0) [2, 2] = some 2 := rfl
theorem ands_kind {k : Int} : ∀ (m : Nat) (F : List Node), stk (kindJ k) F = some (List.replicate (m + 1) 2) → stk (kindJ k) (List.replicate m (13, 0) ++ F) = some [2]
  | 0, F, h => by simpa using h
  | m + 1, F, h => by
    rw [List.replicate_succ', List.append_assoc]
    refine ands_kind m _ ?_
    show stk (kindJ k) ((13, 0) :: F) = _
    rw [stk_more h (t := 2) (by simp; exact Nat.le_add_left 2 m) (by
      show kindJ k (13, 0) (List.take 2 (List.replicate (m + 1 + 1) 2)) = some 2
      rw [List.take_replicate, show min 2 (m + 1 + 1) = 2 by omega]
      exact kj13 k)]
    show some (2 :: List.drop 2 (List.replicate (m + 1 + 1) 2)) = _
    rw [List.drop_replicate, show m + 1 + 1 - 2 = m by omega]
    rfl
theorem and_val (vs : List Int) (a b : Int) : ∃ v, valueJ vs (13, 0) [(a, false), (b, false)] = (v, false) ∧ (v = 1 ↔ a = 1 ∧ b = 1) := by
  by_cases c : a = 1
  · refine ⟨b, ?_, by simp [c]⟩
    subst c
    rfl
  · refine ⟨a, ?_, by simp [c]⟩
    simp [valueJ, c]
theorem ands_val {vs : List Int} : ∀ (m : Nat) (F : List Node) (s : List Val), stk (valF vs) F = some s → s.length = m + 1 → (∀ p ∈ s, p.2 = false) → ∃ v, stk (valF vs) (List.replicate m (13, 0) ++ F) = some [(v, false)] ∧ (v = 1 ↔ ∀ p ∈ s, p.1 = 1)
  | 0, F, s, h, hl, hp => by
    match s, hl with
    | [(a, y)], _ =>
      have : y = false := hp (a, y) List.mem_cons_self
      subst this
      exact ⟨a, by simpa using h, by simp⟩
  | m + 1, F, s, h, hl, hp => by
    match s, hl with
    | (a, y) :: (b, z) :: r, hl =>
      have hy : y = false := hp (a, y) List.mem_cons_self
      have hz : z = false := hp (b, z) (by simp)
      subst hy hz
      obtain ⟨v, hv, hv1⟩ := and_val vs a b
      have hs : stk (valF vs) ((13, 0) :: F) = some ((v, false) :: r) := by
        rw [stk_more h (t := (v, false)) (by show 2 ≤ _; simp) (by show some (valueJ vs (13, 0) [(a, false), (b, false)]) = _; rw [hv])]
        rfl
      obtain ⟨u, hu, hu1⟩ := ands_val m ((13, 0) :: F) ((v, false) :: r) hs (by simpa using hl) (fun p q => by
        rcases List.mem_cons.1 q with rfl | q
        · rfl
        · exact hp p (by simp [q]))
      refine ⟨u, ?_, ?_⟩
      · rw [List.replicate_succ', List.append_assoc]
        exact hu
      · rw [hu1]
        simp only [List.forall_mem_cons, hv1]
        exact and_assoc
theorem flat_kind {k : Int} : ∀ (xs : List (List Node)), (∀ e ∈ xs, e = [] ∨ kindL k e = some 2) → stk (kindJ k) xs.flatten = some (List.replicate (allN xs) 2)
  | [], _ => rfl
  | e :: r, h => by
    have ih := flat_kind r (fun e q => h e (List.mem_cons_of_mem _ q))
    rcases h e List.mem_cons_self with rfl | hk
    · simpa [allN] using ih
    · have hne : e ≠ [] := by
        rintro rfl
        cases hk
      have : allN (e :: r) = allN r + 1 := by
        cases e with
        | nil => exact absurd rfl hne
        | cons a l => simp [allN]
      rw [List.flatten_cons, stk_app e r.flatten _ _ (kindL_stk hk).2 ih, this, List.replicate_succ]
      rfl
theorem flat_val {k : Int} {vs : List Int} : ∀ (xs : List (List Node)), (∀ e ∈ xs, e = [] ∨ kindL k e = some 2) → stk (valF vs) xs.flatten = some ((xs.filter (fun e => !e.isEmpty)).map (valL vs))
  | [], _ => rfl
  | e :: r, h => by
    have ih := flat_val (vs := vs) r (fun e q => h e (List.mem_cons_of_mem _ q))
    rcases h e List.mem_cons_self with rfl | hk
    · simpa using ih
    · have hne : e ≠ [] := by
        rintro rfl
        cases hk
      have : (e :: r).filter (fun e => !e.isEmpty) = e :: r.filter (fun e => !e.isEmpty) := by
        cases e with
        | nil => exact absurd rfl hne
        | cons a l => simp
      rw [List.flatten_cons, stk_app e r.flatten _ _ (val_stk hk) ih, this]
      rfl
theorem mem_len : ∀ (xs : List (List Node)) {e : List Node}, e ∈ xs → e.length ≤ xs.flatten.length
  | [], _, h => by cases h
  | a :: r, e, h => by
    rw [List.flatten_cons, List.length_append]
    rcases List.mem_cons.1 h with rfl | h
    · omega
    · have := mem_len r h
      omega
theorem holds_ok {vs : List Int} {e : List Node} (h : (holdsT vs e).2 = 0) : (e = [] ∧ (holdsT vs e).1 = true) ∨ (kindL (vs.length : Int) e = some 2 ∧ e ≠ [] ∧ valL vs e = ((worthT 2 vs e).1, false) ∧ (holdsT vs e).1 = ((worthT 2 vs e).1 == 1)) := by
  unfold holdsT at *
  by_cases c : e.length = 0
  · left
    exact ⟨List.length_eq_zero_iff.1 c, by rw [if_pos c]⟩
  · right
    rw [if_neg c] at h
    obtain ⟨h1, h2⟩ := worth_ok h
    exact ⟨h1, fun q => c (by rw [q]; rfl), h2, by rw [if_neg c]⟩
theorem all_long {vs : List Int} {l : List Node} (h : 64 < l.length) : holdsT vs l = (false, 121) := by
  unfold holdsT
  rw [if_neg (by omega)]
  have : worthT 2 vs l = (0, 121) := by
    unfold worthT
    have : kindL (vs.length : Int) l = none := by
      unfold kindL
      rw [if_pos h]
    rw [this, if_neg (by simp)]
  rw [this]
  rfl
theorem all_holds {vs : List Int} (xs : List (List Node)) (hok : ∀ e ∈ xs, (holdsT vs e).2 = 0) (hl : (allL xs).length ≤ 64) : holdsT vs (allL xs) = (xs.all (fun e => (holdsT vs e).1), 0) := by
  have hk : ∀ e ∈ xs, e = [] ∨ kindL (vs.length : Int) e = some 2 := fun e he => by
    rcases holds_ok (hok e he) with ⟨h, _⟩ | ⟨h, _⟩
    · exact .inl h
    · exact .inr h
  have fk := flat_kind xs hk
  have fv := flat_val (vs := vs) xs hk
  by_cases c : allN xs = 0
  · have hz := (allN_zero xs).1 c
    have hj : allL xs = [] := by
      unfold allL
      rw [c, List.length_eq_zero_iff.1 hz]
      rfl
    rw [hj]
    have : xs.all (fun e => (holdsT vs e).1) = true := by
      rw [List.all_eq_true]
      intro e he
      rcases holds_ok (hok e he) with ⟨_, h⟩ | ⟨_, h, _⟩
      · exact h
      · have : e.length ≤ xs.flatten.length := mem_len xs he
        exact absurd (List.length_eq_zero_iff.1 (by omega)) h
    rw [this]
    rfl
  · obtain ⟨m, hm⟩ : ∃ m, allN xs = m + 1 := ⟨allN xs - 1, by omega⟩
    have hJ : allL xs = List.replicate m (13, 0) ++ xs.flatten := by
      unfold allL
      rw [hm]
      rfl
    rw [hm] at fk
    have kk := ands_kind m _ fk
    rw [← hJ] at kk
    have kL := kindL_of hl kk
    obtain ⟨v, hv, hv1⟩ := ands_val m _ _ fv (by rw [List.length_map]; exact hm) (by
      intro p hp
      obtain ⟨e, he, rfl⟩ := List.mem_map.1 hp
      rcases holds_ok (hok e (List.mem_filter.1 he).1) with ⟨h, _⟩ | ⟨_, _, h, _⟩
      · subst h
        simp at he
      · rw [h])
    rw [← hJ] at hv
    have vL := valL_of hv
    have hne : ¬ (allL xs).length = 0 := by
      intro q
      have := (allN_zero xs).2 (by
        rw [hJ, List.length_append] at q
        omega)
      exact c this
    unfold holdsT
    rw [if_neg hne, worth_of kL vL]
    simp only [Bool.false_eq_true, if_false]
    ext
    · show (v == 1) = _
      rw [Bool.eq_iff_iff, beq_iff_eq, hv1, List.all_eq_true]
      constructor
      · intro h e he
        rcases holds_ok (hok e he) with ⟨h1, h2⟩ | ⟨h1, h2, h3, h4⟩
        · exact h2
        · show (holdsT vs e).1 = true
          rw [h4]
          have := h (valL vs e) (List.mem_map_of_mem (List.mem_filter.2 ⟨he, by
            cases e with
            | nil => exact absurd rfl h2
            | cons a l => rfl⟩))
          rw [h3] at this
          simpa using this
      · intro h p hp
        obtain ⟨e, he, rfl⟩ := List.mem_map.1 hp
        have hx := (List.mem_filter.1 he).1
        rcases holds_ok (hok e hx) with ⟨h1, h2⟩ | ⟨h1, h2, h3, h4⟩
        · subst h1
          simp at he
        · have q : (holdsT vs e).1 = true := h e hx
          rw [h4] at q
          rw [h3]
          simpa using q
    · rfl
end Go.Proofs.YtmnhbokiibaopabDoor
