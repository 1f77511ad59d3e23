/-
  Lists one behind the other; what ExprTurns asks, of lists.
-/
import Derived.Test.YtgidlgmnkjoofaaDoorPm
namespace Go.Proofs.YtgidlgmnkjoofaaDoor
open Go.RowKit
set_option linter.unusedVariables false
theorem stk_app {α : Type} {jn : Node → List α → Option α} : ∀ (a b : List Node) (sa sb : List α), stk jn a = some sa → stk jn b = some sb → stk jn (a ++ b) = some (sa ++ sb)
  | [], b, sa, sb, ha, hb => by simp [stk] at ha; subst ha; simpa using hb
  | n :: a, b, sa, sb, ha, hb => by
    obtain ⟨s', t, e, hl, ht, rfl⟩ := stk_some ha
    have ih := stk_app a b s' sb e hb
    have h1 : (s' ++ sb).take (pt n) = s'.take (pt n) := List.take_append_of_le_length hl
    have h2 : (s' ++ sb).drop (pt n) = s'.drop (pt n) ++ sb := List.drop_append_of_le_length hl
    rw [List.cons_append]
    rw [stk_more (n := n) ih (by rw [List.length_append]; omega) (by rw [h1]; exact ht), h2]
    rfl
theorem worth_ok {wk : Nat} {vs : List Int} {l : List Node} (h : (worthT wk vs l).2 = 0) : kindL (vs.length : Int) l = some wk ∧ valL vs l = ((worthT wk vs l).1, false) := by
  unfold worthT at *
  split at h
  · rename_i hk
    refine ⟨hk, ?_⟩
    rw [if_pos hk]
    split at h
    · exact absurd h (by decide)
    · rename_i hn
      rw [if_neg hn]
      ext
      · rfl
      · simpa using hn
  · exact absurd h (by decide)
theorem val_stk {k : Int} {vs : List Int} {l : List Node} {t : Nat} (h : kindL k l = some t) : stk (valF vs) l = some [valL vs l] := by
  obtain ⟨_, hs⟩ := kindL_stk h
  obtain ⟨s', e, hl⟩ := stk_total (valueJ vs) l [t] hs
  match s', hl with
  | [u], _ =>
    have : foldL (valF vs) l = some u := fold_one _ l u e
    unfold valL
    rw [this]
    exact e
theorem kindL_of {k : Int} {l : List Node} {t : Nat} (hl : l.length ≤ 64) (h : stk (kindJ k) l = some [t]) : kindL k l = some t := by
  unfold kindL
  rw [if_neg (by omega)]
  exact fold_one _ l t h
theorem valL_of {vs : List Int} {l : List Node} {v : Val} (h : stk (valF vs) l = some [v]) : valL vs l = v := by
  unfold valL
  rw [fold_one _ l v h]
  rfl
/-- One more node ahead of two lists. -/
theorem two_ahead {k : Int} {vs : List Int} {a b : List Node} {o ka kb kd : Nat} (ha : kindL k a = some ka) (hb : kindL k b = some kb) (hl : a.length + b.length + 1 ≤ 64) (ho : pt (o, 0) = 2) (hj : kindJ k (o, 0) [ka, kb] = some kd) :
    kindL k ((o, 0) :: (a ++ b)) = some kd ∧ valL vs ((o, 0) :: (a ++ b)) = valueJ vs (o, 0) [valL vs a, valL vs b] := by
  obtain ⟨_, sa⟩ := kindL_stk ha
  obtain ⟨_, sb⟩ := kindL_stk hb
  refine ⟨kindL_of (by simp; omega) ?_, valL_of ?_⟩
  · rw [stk_more (stk_app a b _ _ sa sb) (by rw [ho]; exact Nat.le_refl _) (t := kd) (by rw [ho]; exact hj), ho]
    rfl
  · rw [stk_more (stk_app a b _ _ (val_stk ha) (val_stk hb)) (by rw [ho]; exact Nat.le_refl _) (t := valueJ vs (o, 0) [valL vs a, valL vs b]) (by rw [ho]; rfl), ho]
    rfl
theorem one_ahead {k : Int} {vs : List Int} {a : List Node} {o ka kd : Nat} (ha : kindL k a = some ka) (hl : a.length + 1 ≤ 64) (ho : pt (o, 0) = 1) (hj : kindJ k (o, 0) [ka] = some kd) :
    kindL k ((o, 0) :: a) = some kd ∧ valL vs ((o, 0) :: a) = valueJ vs (o, 0) [valL vs a] := by
  obtain ⟨_, sa⟩ := kindL_stk ha
  refine ⟨kindL_of (by simpa using hl) ?_, valL_of ?_⟩
  · rw [stk_more sa (by rw [ho]; exact Nat.le_refl _) (t := kd) (by rw [ho]; exact hj), ho]
    rfl
  · rw [stk_more (val_stk ha) (by rw [ho]; exact Nat.le_refl _) (t := valueJ vs (o, 0) [valL vs a]) (by rw [ho]; rfl), ho]
    rfl
theorem worth_of {wk : Nat} {vs : List Int} {l : List Node} {v : Val} (hk : kindL (vs.length : Int) l = some wk) (hv : valL vs l = v) : worthT wk vs l = if v.2 = true then (0, 20) else (v.1, 0) := by
  unfold worthT
  rw [if_pos hk, hv]
theorem kj4 (k : Int) : kindJ k (4, 0) [1, 1] = some 1 := rfl
theorem kj6 (k : Int) : kindJ k (6, 0) [1, 1] = some 1 := rfl
theorem kj10 (k : Int) : kindJ k (10, 0) [1, 1] = some 2 := rfl
theorem kj3 (k : Int) : kindJ k (3, 0) [1] = some 1 := rfl
theorem turn_add {vs : List Int} {a b : List Node} {x y : Int} (ha : kindL (vs.length : Int) a = some 1) (hb : kindL (vs.length : Int) b = some 1) (va : valL vs a = (x, false)) (vb : valL vs b = (y, false)) (hl : a.length + b.length + 1 ≤ 64) : worthT 1 vs ((4, 0) :: (a ++ b)) = worthT 1 vs ((4, 0) :: (b ++ a)) := by
  obtain ⟨k1, v1⟩ := two_ahead (vs := vs) ha hb hl rfl (kj4 _)
  obtain ⟨k2, v2⟩ := two_ahead (vs := vs) hb ha (by omega) rfl (kj4 _)
  rw [worth_of k1 v1, worth_of k2 v2, va, vb]
  have : valueJ vs (4, 0) [(x, false), (y, false)] = valueJ vs (4, 0) [(y, false), (x, false)] := by
    show holdV (x + y) = holdV (y + x)
    rw [Int.add_comm]
  rw [this]
theorem turn_mul {vs : List Int} {a b : List Node} {x y : Int} (ha : kindL (vs.length : Int) a = some 1) (hb : kindL (vs.length : Int) b = some 1) (va : valL vs a = (x, false)) (vb : valL vs b = (y, false)) (hl : a.length + b.length + 1 ≤ 64) : worthT 1 vs ((6, 0) :: (a ++ b)) = worthT 1 vs ((6, 0) :: (b ++ a)) := by
  obtain ⟨k1, v1⟩ := two_ahead (vs := vs) ha hb hl rfl (kj6 _)
  obtain ⟨k2, v2⟩ := two_ahead (vs := vs) hb ha (by omega) rfl (kj6 _)
  rw [worth_of k1 v1, worth_of k2 v2, va, vb]
  have : valueJ vs (6, 0) [(x, false), (y, false)] = valueJ vs (6, 0) [(y, false), (x, false)] := by
    show holdV (x * y) = holdV (y * x)
    rw [Int.mul_comm]
  rw [this]
theorem turn_equal {vs : List Int} {a b : List Node} {x y : Int} (ha : kindL (vs.length : Int) a = some 1) (hb : kindL (vs.length : Int) b = some 1) (va : valL vs a = (x, false)) (vb : valL vs b = (y, false)) (hl : a.length + b.length + 1 ≤ 64) : holdsT vs ((10, 0) :: (a ++ b)) = (x == y, 0) := by
  obtain ⟨k1, v1⟩ := two_ahead (vs := vs) ha hb hl rfl (kj10 _)
  unfold holdsT
  rw [if_neg (by simp), worth_of k1 v1, va, vb]
  have : valueJ vs (10, 0) [(x, false), (y, false)] = ansV (x == y) := rfl
  rw [this]
  cases x == y <;> rfl
theorem turn_neg {vs : List Int} {a : List Node} {x : Int} (ha : kindL (vs.length : Int) a = some 1) (va : valL vs a = (x, false)) (hx : inR x) (hl : a.length + 2 ≤ 64) : worthT 1 vs ((3, 0) :: (3, 0) :: a) = if x = -9223372036854775808 then (0, 20) else (x, 0) := by
  obtain ⟨k1, v1⟩ := one_ahead (vs := vs) ha (by omega) rfl (kj3 _)
  obtain ⟨k2, v2⟩ := one_ahead (vs := vs) k1 (by simpa using hl) rfl (kj3 _)
  rw [worth_of k2 v2, v1, va]
  have e1 : valueJ vs (3, 0) [(x, false)] = holdV (0 - x) := rfl
  rw [e1]
  by_cases c : x = -9223372036854775808
  · subst c
    rfl
  · rw [if_neg c, holdV_in (by unfold inR at *; omega)]
    have e2 : valueJ vs (3, 0) [(0 - x, false)] = holdV (0 - (0 - x)) := rfl
    rw [e2, show 0 - (0 - x) = x by omega, holdV_in hx]
    rfl
theorem worth_inR {wk : Nat} {vs : List Int} {l : List Node} (hvs : ∀ v ∈ vs, inR v) : inR (worthT wk vs l).1 := by
  unfold worthT
  split
  · rename_i hk
    split
    · decide
    · obtain ⟨_, hs⟩ := kindL_stk hk
      exact stk_inR vs hvs l (kind_nodes l _ hs) _ (val_stk hk) _ List.mem_cons_self
  · decide
end Go.Proofs.YtgidlgmnkjoofaaDoor
