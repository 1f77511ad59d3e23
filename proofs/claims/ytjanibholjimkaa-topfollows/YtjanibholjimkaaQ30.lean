/-
  What is kept when a clock is set and when a bound more is asked; how great the bounds are.
-/
import Derived.Test.YtjanibholjimkaaQ29
namespace Go.Proofs.Ytjanibholjimkaa
open Go.RowKit
set_option linter.unusedVariables false
set_option maxRecDepth 100000
theorem two_kD {k D : Int} : (2 * k + 1 - 1) * D = 2 * (k * D) := by
  rw [show 2 * k + 1 - 1 = 2 * k by omega, Int.mul_assoc]
theorem neg_kD {k D : Int} : (-(2 * k) + 1 - 1) * D = -(2 * (k * D)) := by
  rw [show -(2 * k) + 1 - 1 = -(2 * k) by omega, Int.neg_mul, Int.mul_assoc]
def SVk (V : Nat → Int) (x : Nat) (y : Int) (i : Nat) : Int := if i = x then y else V i
theorem set_keeps {n x : Nat} {q : Mat} {V : Nat → Int} {k D : Int} (hx : x ≤ n) (v0 : V 0 = 0) (h : keepsM n V D q) : keepsM n (SVk V x (k * D)) D (rsP x (2 * k + 1) (-(2 * k) + 1) q) := fun i j hi hj => by
  have sx : SVk V x (k * D) x = k * D := by unfold SVk; rw [if_pos rfl]
  have so : ∀ a, ¬ a = x → SVk V x (k * D) a = V a := fun a ha => by unfold SVk; rw [if_neg ha]
  by_cases a : i = x
  · subst a
    by_cases b : j = i
    · subst b
      rw [rsP_xx]
      unfold holdsW
      rw [show ((1 : Int) - 1) * D = 0 by rw [show ((1 : Int) - 1) = 0 by omega, Int.zero_mul]]
      omega
    · rw [rsP_x _ _ _ b, sx, so j b]
      have h1 : holdsW (2 * k + 1) (k * D) D := by unfold holdsW; rw [two_kD]; omega
      have h2 := h 0 j (by omega) hj
      have := holdsW_pl h1 h2
      rw [show k * D + (V 0 - V j) = k * D - V j by omega] at this
      exact this
  · by_cases b : j = x
    · subst b
      rw [rsP_c _ _ _ a, sx, so i a]
      have h1 : holdsW (-(2 * k) + 1) (-(k * D)) D := by unfold holdsW; rw [neg_kD]; omega
      have h2 := h i 0 hi (by omega)
      have := holdsW_pl h2 h1
      rw [show V i - V 0 + -(k * D) = V i - k * D by omega] at this
      exact this
    · rw [rsP_o _ _ _ a b, so i a, so j b]
      exact h i j hi hj
/-- What keeps the bounds behind a clock that is set has this number there. -/
theorem set_at {n x : Nat} {q : Mat} {V : Nat → Int} {k D : Int} (hD : 1 ≤ D) (hk : -1000 ≤ k ∧ k ≤ 1000) (h : Cl n q) (x1 : 1 ≤ x) (hx : x ≤ n) (v0 : V 0 = 0) (hV : keepsM n V D (rsP x (2 * k + 1) (-(2 * k) + 1) q)) : V x = k * D := by
  have h1 := hV x 0 hx (by omega)
  have h2 := hV 0 x (by omega) hx
  have ho := opn_val
  rw [rsP_x _ _ _ (by omega), h.one 0 (by omega), pl_one (.inr ⟨by omega, by omega⟩), v0] at h1
  rw [rsP_c _ _ _ (by omega), h.one 0 (by omega), one_pl (.inr ⟨by omega, by omega⟩), v0] at h2
  unfold holdsW at h1 h2
  rw [two_kD] at h1
  rw [neg_kD] at h2
  generalize (2 * k + 1) * D = y at *
  generalize (-(2 * k) + 1) * D = z at *
  omega
theorem Hs.set {n x T : Nat} {p : Mat} {k : Int} (h : Cl n p) (low : ∀ j, j ≤ n → p 0 j ≤ 1) (x1 : 1 ≤ x) (hx : x ≤ n) (k0 : 0 ≤ k) (k9 : k ≤ 9) (H : Hs n p T) : Hs n (rsP x (2 * k + 1) (-(2 * k) + 1) p) (T + 1) := fun D hD V v0 hk => by
  have ho := opn_val
  have hv := set_at hD ⟨by omega, by omega⟩ h x1 hx v0 hk
  have hk' : ∀ i j, i ≤ n → j ≤ n → ¬ i = x → ¬ j = x → holdsW (p i j) (V i - V j) D := fun i j hi hj i0 j0 => by
    have := hk i j hi hj
    rwa [rsP_o _ _ _ i0 j0] at this
  have f0 : ¬ p 0 x = opn := by have := low x hx; omega
  obtain ⟨u, u0, hu⟩ := found (x := x) hD h hx (V := V) hk' fun j hj j0 f => by
    have := compat (V := V) hD h (show 0 ≤ n by omega) hj hx (hk' 0 j (by omega) hj (by omega) j0) f0 f
    have := gW_le1 (g := 2 * D) (by omega) (low x hx)
    rw [v0] at *
    omega
  obtain ⟨K, K1, L, l1, l2, l3⟩ := H (2 * D) (by omega) (fun i => if i = x then u else 2 * V i) (by show (if 0 = x then u else 2 * V 0) = 0; rw [if_neg (by omega), v0]; rfl) hu
  have eE : K * (2 * D) = 2 * K * D := by rw [← Int.mul_assoc, Int.mul_comm K 2]
  have hE : 1 ≤ 2 * K * D := by rw [← eE]; have := Int.mul_le_mul K1 (show 1 ≤ 2 * D by omega) (by decide) (by omega); omega
  rw [eE] at l3
  have kv : ∀ i, ¬ i = x → K * (if i = x then u else 2 * V i) = 2 * K * V i := fun i hi => by
    rw [if_neg hi, ← Int.mul_assoc, Int.mul_comm K 2]
  have kx : K * (if x = x then u else 2 * V x) = K * u := by rw [if_pos rfl]
  have ex : 2 * K * V x = k * (2 * K * D) := by rw [hv, ← Int.mul_assoc, ← Int.mul_assoc, Int.mul_comm (2 * K) k, Int.mul_assoc k]
  have e9 : k * (2 * K * D) ≤ 9 * (2 * K * D) := Int.mul_le_mul_of_nonneg_right k9 (by omega)
  refine ⟨2 * K, by omega, K * u :: L, by simp; omega, fun y hy => ?_, fun s hs c1 c2 t ht => ?_⟩
  · rcases List.mem_cons.1 hy with rfl | hy
    · exact Int.mul_nonneg (by omega) u0
    · exact l2 y hy
  · have key := l3 s hs (fun y hy => c1 y (List.mem_cons_of_mem _ hy)) (fun i hi => by
      show K * (if i = x then u else 2 * V i) ≤ _ ∨ s ≤ K * (if i = x then u else 2 * V i)
      by_cases e : i = x
      · subst e
        rw [kx]
        exact c1 _ (by simp)
      · rw [kv i e]
        exact c2 i hi) t ht
    have key2 := set_keeps (x := x) (k := k) hx (by
      show (if s ≤ K * (if 0 = x then u else 2 * V 0) then K * (if 0 = x then u else 2 * V 0) + t else K * (if 0 = x then u else 2 * V 0)) = 0
      rw [kv 0 (by omega), v0, Int.mul_zero, if_neg (by omega)]) key
    refine keeps_diff key2 fun i j hi hj => Int.le_of_eq ?_
    have at' : ∀ a, (if s ≤ 2 * K * V a then 2 * K * V a + t else 2 * K * V a) = SVk (fun i => if s ≤ K * (if i = x then u else 2 * V i) then K * (if i = x then u else 2 * V i) + t else K * (if i = x then u else 2 * V i)) x (k * (2 * K * D)) a := fun a => by
      unfold SVk
      by_cases e : a = x
      · subst e
        rw [if_pos rfl, ex, if_neg (by omega)]
      · rw [if_neg e]
        show _ = (if s ≤ K * (if a = x then u else 2 * V a) then K * (if a = x then u else 2 * V a) + t else K * (if a = x then u else 2 * V a))
        rw [kv a e]
    show (if s ≤ 2 * K * V i then 2 * K * V i + t else 2 * K * V i) - (if s ≤ 2 * K * V j then 2 * K * V j + t else 2 * K * V j) = _
    rw [at' i, at' j]
theorem Hs.con {n i0 j0 T : Nat} {p C : Mat} {v : Int} (hi0 : i0 ≤ n) (hj0 : j0 ≤ n) (v0 : -100 ≤ v) (v1 : v ≤ 100) (hC : ∀ D, 1 ≤ D → ∀ V, keepsM n V D C ↔ keepsM n V D p ∧ holdsW v (V i0 - V j0) D) (H : Hs n p T) : Hs n C T := fun D hD V z hk => by
  obtain ⟨h1, h2⟩ := (hC D hD V).1 hk
  obtain ⟨K, K1, L, l1, l2, l3⟩ := H D hD V z h1
  have hE : 1 ≤ K * D := by have := Int.mul_le_mul K1 hD (by decide) (by omega); omega
  refine ⟨K, K1, L, l1, l2, fun s hs c1 c2 t ht => (hC _ hE _).2 ⟨l3 s hs c1 c2 t ht, ?_⟩⟩
  have h3 := hW_scale K1 h2
  rw [Int.mul_sub] at h3
  have a : K * V i0 ≤ s - 60 * (K * D) ∨ s ≤ K * V i0 := c2 i0 hi0
  have b : K * V j0 ≤ s - 60 * (K * D) ∨ s ≤ K * V j0 := c2 j0 hj0
  refine hW_anti h3 ?_
  show (if s ≤ K * V i0 then K * V i0 + t else K * V i0) - (if s ≤ K * V j0 then K * V j0 + t else K * V j0) ≤ K * V i0 - K * V j0
  have ho := opn_val
  by_cases q : s ≤ K * V i0
  · by_cases r : s ≤ K * V j0
    · rw [if_pos q, if_pos r]; omega
    · exfalso
      unfold holdsW at h3
      have m1 : (v - 1) * (K * D) ≤ 100 * (K * D) := Int.mul_le_mul_of_nonneg_right (by omega) (by omega)
      have m2 : v * (K * D) ≤ 100 * (K * D) := Int.mul_le_mul_of_nonneg_right (by omega) (by omega)
      generalize (v - 1) * (K * D) = y at *
      generalize v * (K * D) = z at *
      omega
  · rw [if_neg q]; split <;> omega
theorem Hs.zero {n : Nat} {p : Mat} (h : ∀ D, 1 ≤ D → ∀ V : Nat → Int, V 0 = 0 → keepsM n V D p → ∀ i, i ≤ n → V i = 0) : Hs n p 0 := fun D hD V z hk => by
  refine ⟨1, by decide, [], by simp, by simp, fun s hs c1 c2 t ht => ?_⟩
  rw [Int.one_mul] at *
  have v0 := h D hD V z hk
  refine keeps_diff hk fun i j hi hj => ?_
  show (if s ≤ 1 * V i then 1 * V i + t else 1 * V i) - (if s ≤ 1 * V j then 1 * V j + t else 1 * V j) ≤ V i - V j
  rw [v0 i hi, v0 j hj, Int.mul_zero, if_neg (by omega)]
  omega
/-! ### How great the bounds are -/
theorem gap {g : Int} (hg : 0 < g) : ∀ (N : Nat) (Q : List Int), Q.length ≤ N → ∀ a b : Int, ((N : Int) + 1) * g ≤ b - a → ∃ s, a + g ≤ s ∧ s ≤ b ∧ ∀ x ∈ Q, x ≤ s - g ∨ s ≤ x
  | 0, Q, hQ, a, b, h => by
    have : Q = [] := List.length_eq_zero_iff.1 (by omega)
    subst this
    exact ⟨a + g, by omega, by have : ((0 : Nat) : Int) + 1 = 1 := by decide
                               rw [this, Int.one_mul] at h; omega, by simp⟩
  | N + 1, Q, hQ, a, b, h => by
    have e : (((N + 1 : Nat) : Int) + 1) * g = ((N : Int) + 1) * g + g := by
      rw [show (((N + 1 : Nat) : Int) + 1) = ((N : Int) + 1) + 1 by omega, Int.add_mul, Int.one_mul]
    rw [e] at h
    have p0 : 0 ≤ ((N : Int) + 1) * g := Int.mul_nonneg (by omega) (by omega)
    by_cases c : ∃ x ∈ Q, a < x ∧ x < a + g
    · obtain ⟨x, hx, x1, x2⟩ := c
      have hl : (Q.erase x).length ≤ N := by rw [List.length_erase_of_mem hx]; omega
      obtain ⟨s, s1, s2, s3⟩ := gap hg N (Q.erase x) hl x b (by omega)
      refine ⟨s, by omega, s2, fun y hy => ?_⟩
      by_cases q : y = x
      · subst q; left; omega
      · exact s3 y ((List.mem_erase_of_ne q).2 hy)
    · refine ⟨a + g, by omega, by omega, fun x hx => ?_⟩
      have : ¬ (a < x ∧ x < a + g) := fun q => c ⟨x, hx, q⟩
      omega
theorem holdsW_far {b x E : Int} (f : ¬ b = opn) (h : ∀ t : Int, 0 ≤ t → holdsW b (x + t) E) : False := by
  have := (hW_gW f).1 (h ((gW b E - x).natAbs + 1) (by omega))
  omega
set_option maxHeartbeats 1000000 in
theorem Hs.bd {n T : Nat} {p : Mat} (hn : n ≤ 8) (cl : Cl n p) (low : ∀ j, j ≤ n → p 0 j ≤ 1) (hf : FinM n 1000000 p) (H : Hs n p T) {i j : Nat} (hi : i ≤ n) (hj : j ≤ n) (f : ¬ p i j = opn) : p i j / 2 ≤ ((T : Int) + n + 2) * 60 + 1 := by
  apply Classical.byContradiction
  intro big
  have ho := opn_val
  have ij : ¬ i = j := fun e => by subst e; rw [cl.one i hi] at big; omega
  have pb : -1000000 ≤ p i j ∧ p i j ≤ 1000000 := by
    rcases hf i j hi hj with h | h
    · exact absurd h f
    · exact h
  obtain ⟨o, eo⟩ : ∃ o : Int, o = -2 * (p i j / 2) + 3 := ⟨_, rfl⟩
  have fo : Fin' 1073741824 o := .inr ⟨by omega, by omega⟩
  have hp1 : 1 ≤ pl (p i j) o := by
    have := pl_cases (p i j) o
    omega
  have hf' : FinM n 1073741824 p := fin_mono hf (by decide)
  have fK : FinM n (Kb 0) p := hf'
  obtain ⟨q, e⟩ := close_withB (r := fun a b => if a = j ∧ b = i then min (p a b) o else p a b) hn hf' cl.one cl.tri hi hj fo hp1 (fun a b ha hb => by
      show Fin' (Kb 0) (if a = j ∧ b = i then min (p a b) o else p a b)
      split
      · have h1 := fK a b ha hb
        by_cases c : p a b ≤ o
        · rw [show min (p a b) o = p a b by omega]; exact h1
        · rw [show min (p a b) o = o by omega]; exact fo
      · exact fK a b ha hb) (fun a ha => by
      show (if a = j ∧ a = i then min (p a a) o else p a a) = 1
      rw [if_neg (by omega), cl.one a ha]) fun a b ha hb => rfl
  have R := close_rounds (r := fun a b => if a = j ∧ b = i then min (p a b) o else p a b) hn (fun a b ha hb => by
      show Fin' (Kb 0) (if a = j ∧ b = i then min (p a b) o else p a b)
      split
      · have h1 := fK a b ha hb
        by_cases c : p a b ≤ o
        · rw [show min (p a b) o = p a b by omega]; exact h1
        · rw [show min (p a b) o = o by omega]; exact fo
      · exact fK a b ha hb) (fun a ha => by
      show (if a = j ∧ a = i then min (p a a) o else p a a) ≤ 1
      rw [if_neg (by omega), cl.one a ha]; decide) e
  have cq := R.cl hn
  have le : ∀ a b, a ≤ n → b ≤ n → q a b ≤ p a b := fun a b ha hb => by
    have h1 : q a b ≤ (if a = j ∧ b = i then min (p a b) o else p a b) := R.le a b ha hb
    split at h1 <;> omega
  have leo : q j i ≤ o := by
    have h1 : q j i ≤ (if j = j ∧ i = i then min (p j i) o else p j i) := R.le j i hj hi
    rw [if_pos ⟨rfl, rfl⟩] at h1
    omega
  obtain ⟨g, eg⟩ : ∃ g : Int, g = n + 1 := ⟨_, rfl⟩
  have g1 : 1 ≤ g := by omega
  have kq := inside_keeps (p := q) (g := g) ⟨cq.fin, cq.one, cq.tri, fun a ha => Int.le_trans (le 0 a (by omega) ha) (low a ha)⟩ eg
  generalize gRounds n q g (n + 2) (fun _ => 0) = V0 at kq
  have kp : keepsM n (fun a => V0 a - V0 0) g p := fun a b ha hb => by
    have := holdsW_mono g1 (cl.F ha hb) (le a b ha hb) (kq a b ha hb)
    show holdsW (p a b) (V0 a - V0 0 - (V0 b - V0 0)) g
    rw [show V0 a - V0 0 - (V0 b - V0 0) = V0 a - V0 b by omega]
    exact this
  have far : (p i j / 2 - 1) * g ≤ V0 i - V0 j := by
    have h1 := holdsW_mono g1 (fo.mono (by decide)) leo (kq j i hj hi)
    have no : ¬ o = opn := by omega
    have h2 := (hW_gW no).1 h1
    unfold gW at h2
    rw [if_pos (by omega), show o / 2 = -(p i j / 2 - 1) by omega, Int.neg_mul] at h2
    omega
  have nn := none_below (W := fun a => V0 a - V0 0) g1 low (by show V0 0 - V0 0 = 0; omega) kp
  obtain ⟨K, K1, L, l1, l2, l3⟩ := H g g1 (fun a => V0 a - V0 0) (by show V0 0 - V0 0 = 0; omega) kp
  have hE : 1 ≤ K * g := by have := Int.mul_le_mul K1 g1 (by decide) (by omega); omega
  have far2 : (p i j / 2 - 1) * (K * g) ≤ K * (V0 i - V0 0) - K * (V0 j - V0 0) := by
    have := Int.mul_le_mul_of_nonneg_left far (show 0 ≤ K by omega)
    rw [← Int.mul_sub, show V0 i - V0 0 - (V0 j - V0 0) = V0 i - V0 j by omega, ← Int.mul_assoc, Int.mul_comm _ K, Int.mul_assoc]
    exact this
  have far3 : (((T + n + 1 : Nat) : Int) + 1) * (60 * (K * g)) ≤ K * (V0 i - V0 0) - K * (V0 j - V0 0) := by
    refine Int.le_trans ?_ far2
    rw [← Int.mul_assoc]
    exact Int.mul_le_mul_of_nonneg_right (by push_cast; omega) (by omega)
  obtain ⟨s, s1, s2, s3⟩ := gap (show 0 < 60 * (K * g) by omega) (T + n + 1) (L ++ (List.range (n + 1)).map fun a => K * (V0 a - V0 0)) (by simp; omega) _ _ far3
  have nj : 0 ≤ K * (V0 j - V0 0) := Int.mul_nonneg (by omega) (nn j hj)
  refine holdsW_far (b := p i j) (x := K * (V0 i - V0 0) - K * (V0 j - V0 0)) (E := K * g) f fun t ht => ?_
  have key := l3 s (by omega) (fun x hx => s3 x (List.mem_append.2 (.inl hx))) (fun a ha => s3 _ (List.mem_append.2 (.inr (List.mem_map.2 ⟨a, List.mem_range.2 (by omega), rfl⟩)))) t ht i j hi hj
  have k2 : holdsW (p i j) ((if s ≤ K * (V0 i - V0 0) then K * (V0 i - V0 0) + t else K * (V0 i - V0 0)) - (if s ≤ K * (V0 j - V0 0) then K * (V0 j - V0 0) + t else K * (V0 j - V0 0))) (K * g) := key
  rw [if_pos s2, if_neg (by omega)] at k2
  rw [show K * (V0 i - V0 0) - K * (V0 j - V0 0) + t = K * (V0 i - V0 0) + t - K * (V0 j - V0 0) by omega]
  exact k2
end Go.Proofs.Ytjanibholjimkaa
