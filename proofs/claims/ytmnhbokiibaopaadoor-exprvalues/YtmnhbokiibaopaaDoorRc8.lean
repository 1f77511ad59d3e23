/-
  Truths are 0 or 1; the document's value, Value, Holds.
-/
import Derived.Test.YtmnhbokiibaopaaDoorRb8
import Derived.Test.YtmnhbokiibaopaaDoorQr
namespace Go.Proofs.YtmnhbokiibaopaaDoor
open Go.RowKit
set_option linter.unusedVariables false
def bit (v : Val) : Prop := v.2 = true ∨ v.1 = 0 ∨ v.1 = 1
theorem bit_ans (b : Bool) : bit (ansV b) := by cases b <;> simp [bit, ansV]
theorem bit_value {k : Int} (vs : List Int) (n : Node) (ps : List Val) (hn : nodeOk k n) (hk : kd n = 2) (hl : ps.length = pt n) (hp : (opR n.1).2.1 = 2 → ∀ p ∈ ps, bit p) : bit (valueJ vs n ps) := by
  have hin := ok_in hn
  have P1 := pt_one n hin
  have P2 := pt_two n hin
  obtain ⟨o, N⟩ := n
  simp only at *
  have hk' : (opR o).2.2.1 = 2 := hk
  have t1 : ∀ o : Nat, o < 15 → (opR o).2.2.1 = 2 → 7 ≤ o := by decide
  have h7 := t1 o (by omega) hk'
  have t2 : ∀ o : Nat, o < 15 → 12 ≤ o → (opR o).2.1 = 2 := by decide
  unfold valueJ
  simp only
  rw [if_neg (by omega), if_neg (by omega)]
  by_cases c7 : o = 7
  · rw [if_pos c7]
    exact .inr (.inr rfl)
  rw [if_neg c7]
  have q1 := P1 (by omega) (by omega) c7
  have b0 : 12 ≤ o → bit (ps.getD 0 (0, false)) := fun h12 => by
    have h0 : 0 < ps.length := by omega
    have e : ps.getD 0 (0, false) = ps[0]'h0 := by simp [List.getD_eq_getElem?_getD, h0]
    rw [e]
    exact hp (t2 o (by omega) h12) _ (List.getElem_mem h0)
  have b1 : 13 ≤ o → bit (ps.getD 1 (0, false)) := fun h13 => by
    have q2 := P2 (by omega) (by omega) c7 (by omega) (by omega)
    have h0 : 1 < ps.length := by omega
    have e : ps.getD 1 (0, false) = ps[1]'h0 := by simp [List.getD_eq_getElem?_getD, h0]
    rw [e]
    exact hp (t2 o (by omega) (by omega)) _ (List.getElem_mem h0)
  generalize ps.getD 0 (0, false) = x at *
  generalize ps.getD 1 (0, false) = y at *
  by_cases cx : x.2 = true
  · rw [if_pos cx]
    exact .inl cx
  rw [if_neg cx]
  by_cases c13 : o = 13 ∧ ¬ x.1 = 1
  · rw [if_pos c13]
    exact b0 (by omega)
  rw [if_neg c13]
  by_cases c14 : o = 14 ∧ x.1 = 1
  · rw [if_pos c14]
    exact b0 (by omega)
  rw [if_neg c14, if_neg (by omega)]
  by_cases c12 : o = 12
  · rw [if_pos c12]
    rcases b0 (by omega) with h | h | h
    · exact absurd h cx
    · rw [h]
      exact .inr (.inr (by show wrap64 (1 - 0) = 1; unfold wrap64; omega))
    · rw [h]
      exact .inr (.inl (by show wrap64 (1 - 1) = 0; unfold wrap64; omega))
  rw [if_neg c12]
  by_cases cy : y.2 = true
  · rw [if_pos cy]
    exact .inl cy
  rw [if_neg cy]
  unfold joinV
  rw [if_neg (by omega), if_neg (by omega), if_neg (by omega)]
  by_cases c8 : o = 8
  · rw [if_pos c8]; exact bit_ans _
  rw [if_neg c8]
  by_cases c9 : o = 9
  · rw [if_pos c9]; exact bit_ans _
  rw [if_neg c9]
  by_cases c10 : o = 10
  · rw [if_pos c10]; exact bit_ans _
  rw [if_neg c10]
  by_cases c11 : o = 11
  · rw [if_pos c11]; exact bit_ans _
  rw [if_neg c11]
  rcases b1 (by omega) with h | h | h
  · exact absurd h cy
  · exact .inr (.inl h)
  · exact .inr (.inr h)
theorem stk_bits {k : Int} (vs : List Int) : ∀ (L : List Node) (ks : List Nat) (s : List Val), stk (kindJ k) L = some ks → stk (valF vs) L = some s → s.length = ks.length ∧ ∀ (i : Nat) (v : Val), ks[i]? = some 2 → s[i]? = some v → bit v
  | [], ks, s, h1, h2 => by
    simp [stk] at h1 h2
    subst h1 h2
    exact ⟨rfl, fun i v h => by simp at h⟩
  | n :: r, ks, s, h1, h2 => by
    obtain ⟨k', t, e1, l1, t1, rfl⟩ := stk_some h1
    obtain ⟨s', u, e2, l2, t2, rfl⟩ := stk_some h2
    obtain ⟨hl, ih⟩ := stk_bits vs r k' s' e1 e2
    injection t2 with t2
    obtain ⟨ok, ht, hps⟩ := kind_ok t1
    refine ⟨by simp [hl], fun i v hi hv => ?_⟩
    cases i with
    | zero =>
      simp at hi hv
      rw [← hv, ← t2]
      refine bit_value vs n _ ok (by rw [← hi, ht]) (by rw [List.length_take]; omega) (fun h2 p hp => ?_)
      obtain ⟨j, hj⟩ := List.mem_iff_getElem?.1 hp
      rw [List.getElem?_take] at hj
      split at hj
      · rename_i hjp
        have hjk : j < k'.length := by omega
        have hk2 : k'[j]? = some 2 := by
          rw [List.getElem?_eq_getElem hjk]
          congr 1
          rw [← h2]
          exact hps _ (List.mem_iff_getElem?.2 ⟨j, by rw [List.getElem?_take, if_pos hjp, List.getElem?_eq_getElem hjk]⟩)
        exact ih j p hk2 hj
      · cases hj
    | succ i =>
      rw [List.getElem?_cons_succ, List.getElem?_drop] at hi hv
      exact ih _ v hi hv
abbrev valAt (vs : List Int) (l : List Node) (i : Nat) : Val := headAt (valueJ vs) (0, false) l i
theorem valAt_bit {k : Int} {vs : List Int} {l : List Node} {t : Nat} (h : kindL k l = some t) {i : Nat} {y : Node} (hy : l[i]? = some y) (hk : kd y = 2) : bit (valAt vs l i) := by
  obtain ⟨_, hs⟩ := kindL_stk h
  obtain ⟨S, hS, _⟩ := stk_total (valueJ vs) l [t] hs
  obtain ⟨hi, rfl⟩ := List.getElem?_eq_some_iff.1 hy
  obtain ⟨k1, h1⟩ := stk_suffix l _ i hs
  obtain ⟨s1, h2⟩ := stk_suffix l S i hS
  obtain ⟨_, hb⟩ := stk_bits vs _ _ _ h1 h2
  rw [drop_eq l hi] at h1 h2
  obtain ⟨k', t', e1, l1, t1, rfl⟩ := stk_some h1
  obtain ⟨s', u, e2, l2, t2, rfl⟩ := stk_some h2
  have hv : valAt vs l i = u := head_of (by rw [drop_eq l hi]; exact h2)
  rw [hv]
  refine hb 0 u ?_ rfl
  rw [(kind_ok t1).2.1]
  show some (kd (l[i]'hi)) = some 2
  rw [hk]
theorem valAt_inR {k : Int} {vs : List Int} (hvs : ∀ v ∈ vs, inR v) {l : List Node} {t : Nat} (h : kindL k l = some t) (i : Nat) : inR (valAt vs l i).1 := by
  obtain ⟨_, hs⟩ := kindL_stk h
  obtain ⟨S, hS, _⟩ := stk_total (valueJ vs) l [t] hs
  obtain ⟨s1, h2⟩ := stk_suffix l S i hS
  have := stk_inR vs hvs (l.drop i) (fun n hn => kind_nodes l _ hs n (List.mem_of_mem_drop hn)) s1 h2
  show inR (headAt (valueJ vs) (0, false) l i).1
  unfold headAt
  rw [h2]
  match s1, this with
  | [], _ => exact ⟨by decide, by decide⟩
  | u :: s2, this => exact this u List.mem_cons_self
end Go.Proofs.YtmnhbokiibaopaaDoor
