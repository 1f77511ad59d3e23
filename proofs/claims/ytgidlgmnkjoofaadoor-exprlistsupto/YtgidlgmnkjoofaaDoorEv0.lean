/-
  Sorted and compacted is the same as with, number by number.
-/
import Derived.Lib.SlicesCompact
namespace Go.Proofs.YtgidlgmnkjoofaaDoor
set_option linter.unusedVariables false
/-- A rising list with a number. -/
def withI : List Int → Int → List Int
  | [], n => [n]
  | a :: l, n => if a < n then a :: withI l n else if a = n then n :: l else n :: a :: l
abbrev RiseI (l : List Int) : Prop := l.Pairwise (· < ·)
theorem mem_withI : ∀ (l : List Int) (n x : Int), x ∈ withI l n ↔ x = n ∨ x ∈ l
  | [], n, x => by simp [withI]
  | a :: l, n, x => by
    unfold withI
    by_cases h1 : a < n
    · rw [if_pos h1, List.mem_cons, mem_withI l n x, List.mem_cons]
      constructor
      · rintro (h | h | h)
        · exact .inr (.inl h)
        · exact .inl h
        · exact .inr (.inr h)
      · rintro (h | h | h)
        · exact .inr (.inl h)
        · exact .inl h
        · exact .inr (.inr h)
    · rw [if_neg h1]
      by_cases h2 : a = n
      · subst h2; simp
      · rw [if_neg h2]; simp
theorem rise_withI : ∀ (l : List Int) (n : Int), RiseI l → RiseI (withI l n)
  | [], n, h => by simp [withI, RiseI]
  | a :: l, n, h => by
    unfold withI
    obtain ⟨h0, h1⟩ := List.pairwise_cons.1 h
    by_cases c1 : a < n
    · rw [if_pos c1]
      refine List.pairwise_cons.2 ⟨fun x hx => ?_, rise_withI l n h1⟩
      rcases (mem_withI l n x).1 hx with rfl | k
      · exact c1
      · exact h0 x k
    · rw [if_neg c1]
      by_cases c2 : a = n
      · subst c2
        rw [if_pos rfl]
        exact h
      · rw [if_neg c2]
        refine List.pairwise_cons.2 ⟨fun x hx => ?_, h⟩
        rcases List.mem_cons.1 hx with rfl | k
        · omega
        · have := h0 x k
          omega
/-- Rising lists with the same numbers are the same. -/
theorem rise_eq : ∀ {l l' : List Int}, RiseI l → RiseI l' → (∀ x, x ∈ l ↔ x ∈ l') → l = l'
  | [], [], _, _, _ => rfl
  | [], b :: l', _, _, h => by have := (h b).2 (by simp); simp at this
  | a :: l, [], _, _, h => by have := (h a).1 (by simp); simp at this
  | a :: l, b :: l', h1, h2, h => by
    obtain ⟨a1, a2⟩ := List.pairwise_cons.1 h1
    obtain ⟨b1, b2⟩ := List.pairwise_cons.1 h2
    have e : a = b := by
      rcases List.mem_cons.1 ((h a).1 (by simp)) with k | k
      · exact k
      · rcases List.mem_cons.1 ((h b).2 (by simp)) with k' | k'
        · exact k'.symm
        · have x1 := b1 a k
          have x2 := a1 b k'
          omega
    subst e
    rw [rise_eq a2 b2 fun x => ?_]
    constructor
    · intro hx
      rcases List.mem_cons.1 ((h x).1 (List.mem_cons_of_mem _ hx)) with k | k
      · have := a1 x hx; omega
      · exact k
    · intro hx
      rcases List.mem_cons.1 ((h x).2 (List.mem_cons_of_mem _ hx)) with k | k
      · have := b1 x hx; omega
      · exact k
theorem upto_rise {d : Array Int} (hs : ∀ i j, i ≤ j → j < d.size → d[i]! ≤ d[j]!) : ∀ m, m ≤ d.size → RiseI (Lib.compactUpTo d m) ∧ ∀ x, x ∈ Lib.compactUpTo d m ↔ ∃ j, j < m ∧ d[j]! = x
  | 0, _ => by
    refine ⟨by simp [Lib.compactUpTo, RiseI], fun x => ?_⟩
    constructor
    · intro h; simp [Lib.compactUpTo] at h
    · rintro ⟨j, h, -⟩; omega
  | m + 1, hm => by
    obtain ⟨h1, h2⟩ := upto_rise hs m (by omega)
    rw [Lib.compactUpTo_succ]
    by_cases k : Lib.keeps d m = true
    · rw [if_pos k]
      have k' : m = 0 ∨ d[m]! ≠ d[m - 1]! := by simpa [Lib.keeps] using k
      refine ⟨List.pairwise_append.2 ⟨h1, by simp, fun x hx y hy => ?_⟩, fun x => ?_⟩
      · obtain ⟨j, hj, rfl⟩ := (h2 x).1 hx
        rw [List.mem_singleton.1 hy]
        rcases k' with k' | k'
        · omega
        · have x1 := hs j (m - 1) (by omega) (by omega)
          have x2 := hs (m - 1) m (by omega) (by omega)
          omega
      · rw [List.mem_append, h2 x, List.mem_singleton]
        constructor
        · rintro (⟨j, hj, e⟩ | e)
          · exact ⟨j, by omega, e⟩
          · exact ⟨m, by omega, e.symm⟩
        · rintro ⟨j, hj, e⟩
          by_cases c : j = m
          · subst c; exact .inr e.symm
          · exact .inl ⟨j, by omega, e⟩
    · rw [if_neg k, List.append_nil]
      have k' : ¬ (m = 0 ∨ d[m]! ≠ d[m - 1]!) := by simpa [Lib.keeps] using k
      have k1 : m ≠ 0 := fun e => k' (.inl e)
      have k2 : d[m]! = d[m - 1]! := Classical.byContradiction fun e => k' (.inr e)
      refine ⟨h1, fun x => ?_⟩
      rw [h2 x]
      constructor
      · rintro ⟨j, hj, e⟩; exact ⟨j, by omega, e⟩
      · rintro ⟨j, hj, e⟩
        by_cases c : j = m
        · subst c; exact ⟨j - 1, by omega, by rw [← k2, e]⟩
        · exact ⟨j, by omega, e⟩
/-- The numbers of a list, rising, each once. -/
def varsI (l : List Int) : List Int := l.foldl withI []
theorem varsI_rise : ∀ (l acc : List Int), RiseI acc → RiseI (l.foldl withI acc) ∧ ∀ x, x ∈ l.foldl withI acc ↔ x ∈ acc ∨ x ∈ l
  | [], acc, h => ⟨h, fun x => by simp⟩
  | a :: l, acc, h => by
    obtain ⟨h1, h2⟩ := varsI_rise l (withI acc a) (rise_withI acc a h)
    refine ⟨h1, fun x => ?_⟩
    rw [List.foldl_cons, h2 x, mem_withI, List.mem_cons]
    constructor
    · rintro ((k | k) | k)
      · exact .inr (.inl k)
      · exact .inl k
      · exact .inr (.inr k)
    · rintro (k | k | k)
      · exact .inl (.inr k)
      · exact .inl (.inl k)
      · exact .inr k
theorem sorted_vars (zs : List Int) : Lib.compact (zs.mergeSort fun x y => decide (x ≤ y)) = varsI zs := by
  obtain ⟨ys, hy⟩ : ∃ ys, (zs.mergeSort fun x y => decide (x ≤ y)) = ys := ⟨_, rfl⟩
  have hp : ys.Pairwise (fun x y : Int => x ≤ y) := by
    have h := List.pairwise_mergeSort (le := fun x y : Int => decide (x ≤ y)) (by intro a b c h1 h2; simp only [decide_eq_true_eq] at *; omega) (by intro a b; simp only [Bool.or_eq_true, decide_eq_true_eq]; omega) zs
    rw [hy] at h
    exact h.imp fun h => by simpa using h
  have hm : ∀ x, x ∈ ys ↔ x ∈ zs := fun x => by rw [← hy]; exact List.mem_mergeSort
  rw [hy]
  have hs : ∀ i j, i ≤ j → j < ys.toArray.size → ys.toArray[i]! ≤ ys.toArray[j]! := fun i j hij hj => by
    have hj' : j < ys.length := by simpa using hj
    rw [getElem!_pos _ i (by simpa using Nat.lt_of_le_of_lt hij hj'), getElem!_pos _ j hj]
    simp only [List.getElem_toArray]
    rcases Nat.lt_or_eq_of_le hij with c | c
    · exact List.pairwise_iff_getElem.1 hp i j (by omega) hj' c
    · subst c; exact Int.le_refl _
  obtain ⟨c1, c2⟩ := upto_rise hs ys.length (by simp)
  obtain ⟨v1, v2⟩ := varsI_rise zs [] List.Pairwise.nil
  refine rise_eq c1 v1 fun x => ?_
  show x ∈ Lib.compactUpTo ys.toArray ys.length ↔ x ∈ zs.foldl withI []
  rw [c2 x, v2 x, ← hm x]
  constructor
  · rintro ⟨j, hj, e⟩
    rw [getElem!_pos _ j (by simpa using hj)] at e
    simp only [List.getElem_toArray] at e
    exact .inr (e ▸ List.getElem_mem hj)
  · rintro (k | k)
    · simp at k
    · obtain ⟨j, hj, e⟩ := List.getElem_of_mem k
      exact ⟨j, hj, by rw [getElem!_pos _ j (by simpa using hj)]; simpa using e⟩
end Go.Proofs.YtgidlgmnkjoofaaDoor
