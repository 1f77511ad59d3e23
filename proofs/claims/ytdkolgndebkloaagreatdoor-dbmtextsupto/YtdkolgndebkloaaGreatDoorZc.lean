/-
  Closing, in numbers: what one round does, that sums of bounds are monotone and associative, that what is closed keeps the inequality of triangles, and that it holds of the same valuations.
-/
import Derived.Test.YtdkolgndebkloaaGreatDoorZb
namespace Go.Proofs.YtdkolgndebkloaaGreatDoor
open Go.RowKit
set_option linter.unusedVariables false
set_option maxRecDepth 100000
/-- The sum of two bounds, without going round. -/
def pl (a b : Int) : Int := if a = opn ∨ b = opn then opn else a + b - (if a % 2 = 1 ∨ b % 2 = 1 then 1 else 0)
/-- A wide bound: none, or one of this size. -/
def Fin' (K x : Int) : Prop := x = opn ∨ (-K ≤ x ∧ x ≤ K)
theorem dplus_pl {a b K : Int} (ha : Fin' K a) (hb : Fin' K b) (hK : K ≤ 1152921504606846976) : dplus a b = pl a b := by
  unfold dplus pl
  split
  · rfl
  · rename_i h
    unfold Fin' at ha hb
    rw [i64_and1, i64_or_odd]
    unfold wrap64
    split <;> omega
theorem pl_fin {a b K : Int} (ha : Fin' K a) (hb : Fin' K b) : Fin' (2 * K + 1) (pl a b) := by
  unfold Fin' at *
  unfold pl
  split
  · exact .inl rfl
  · right
    split <;> omega
theorem Fin'.mono {K L x : Int} (h : Fin' K x) (hK : K ≤ L) : Fin' L x := by
  unfold Fin' at *
  omega
abbrev F (x : Int) : Prop := Fin' 1152921504606846976 x
theorem opn_val : opn = 4611686018427387904 := rfl
theorem pl_cases (a b : Int) : ((a = opn ∨ b = opn) ∧ pl a b = opn) ∨ (¬ a = opn ∧ ¬ b = opn ∧ ((pl a b = a + b - 1 ∧ (a % 2 = 1 ∨ b % 2 = 1)) ∨ (pl a b = a + b ∧ a % 2 = 0 ∧ b % 2 = 0))) := by
  unfold pl
  by_cases h : a = opn ∨ b = opn
  · rw [if_pos h]
    exact .inl ⟨h, rfl⟩
  · rw [if_neg h]
    refine .inr ⟨by omega, by omega, ?_⟩
    by_cases q : a % 2 = 1 ∨ b % 2 = 1
    · rw [if_pos q]
      exact .inl ⟨rfl, q⟩
    · rw [if_neg q]
      exact .inr ⟨by omega, by omega, by omega⟩
theorem pl_comm (a b : Int) : pl a b = pl b a := by
  have h1 := pl_cases a b
  have h2 := pl_cases b a
  omega
theorem pl_mono {a b c d : Int} (ha : F a) (hb : F b) (hc : F c) (hd : F d) (h1 : a ≤ c) (h2 : b ≤ d) : pl a b ≤ pl c d := by
  unfold F Fin' at *
  have h3 := pl_cases a b
  have h4 := pl_cases c d
  have ho := opn_val
  generalize pl a b = x at *
  generalize pl c d = y at *
  generalize opn = o at *
  omega
set_option maxHeartbeats 2000000 in
theorem pl_assoc {a b c : Int} (ha : F a) (hb : F b) (hc : F c) : pl (pl a b) c = pl a (pl b c) := by
  unfold F Fin' at *
  have h1 := pl_cases a b
  have h2 := pl_cases b c
  have h3 := pl_cases (pl a b) c
  have h4 := pl_cases a (pl b c)
  have ho := opn_val
  generalize pl (pl a b) c = u at *
  generalize pl a (pl b c) = v at *
  generalize pl a b = x at *
  generalize pl b c = y at *
  generalize opn = o at *
  rcases h1 with ⟨h1, e1⟩ | ⟨p1, p2, ⟨e1, q1⟩ | ⟨e1, q1⟩⟩ <;> rcases h2 with ⟨h2, e2⟩ | ⟨r1, r2, ⟨e2, q2⟩ | ⟨e2, q2⟩⟩ <;> rcases h3 with ⟨h3, e3⟩ | ⟨s1, s2, ⟨e3, q3⟩ | ⟨e3, q3⟩⟩ <;> rcases h4 with ⟨h4, e4⟩ | ⟨t1, t2, ⟨e4, q4⟩ | ⟨e4, q4⟩⟩ <;> omega
theorem pl_one {a : Int} (ha : F a) : pl a 1 = a := by
  unfold F Fin' at *
  have h1 := pl_cases a 1
  have ho := opn_val
  omega
/-! ### One round -/
def tgt (n k : Nat) (r : Mat) : Mat := fun i j => if i ≤ n ∧ j ≤ n then min (r i j) (dplus (r i k) (r k j)) else r i j
def midR (n k : Nat) (r : Mat) (I J : Nat) : Mat := fun a c => if (a < I ∧ c ≤ n) ∨ (a = I ∧ c < J) then min (r a c) (dplus (r a k) (r k c)) else r a c
theorem midR_row (n k : Nat) (r : Mat) (I : Nat) : midR n k r I (n + 1) = midR n k r (I + 1) 0 := by
  funext a c
  unfold midR
  congr 1
  apply propext
  omega
/-- The row and the column of k are as they were. -/
def Still (n k : Nat) (r : Mat) : Prop := (∀ i, i ≤ n → r i k ≤ dplus (r i k) (r k k)) ∧ (∀ j, j ≤ n → r k j ≤ dplus (r k k) (r k j))
theorem mid_col {n k : Nat} {r : Mat} (hs : Still n k r) (I J i : Nat) (hi : i ≤ n) (hk : k ≤ n) : midR n k r I J i k = r i k := by
  unfold midR
  split
  · have := hs.1 i hi
    omega
  · rfl
theorem mid_row {n k : Nat} {r : Mat} (hs : Still n k r) (I J j : Nat) (hj : j ≤ n) : midR n k r I J k j = r k j := by
  unfold midR
  split
  · have := hs.2 j hj
    omega
  · rfl
theorem mid_here (n k : Nat) (r : Mat) (I J : Nat) : midR n k r I J I J = r I J := by
  unfold midR
  rw [if_neg (by omega)]
theorem mid_next_same {n k : Nat} {r : Mat} {I J : Nat} (h : r I J ≤ dplus (r I k) (r k J)) : midR n k r I (J + 1) = midR n k r I J := by
  funext a c
  unfold midR
  by_cases e : a = I ∧ c = J
  · obtain ⟨rfl, rfl⟩ := e
    rw [if_pos (by omega), if_neg (by omega)]
    omega
  · congr 1
    apply propext
    omega
theorem mid_next_upd {n k : Nat} {r : Mat} {I J : Nat} (h : ¬ r I J ≤ dplus (r I k) (r k J)) : upd (midR n k r I J) I J (dplus (r I k) (r k J)) = midR n k r I (J + 1) := by
  funext a c
  unfold upd midR
  by_cases e : a = I ∧ c = J
  · obtain ⟨rfl, rfl⟩ := e
    rw [if_pos ⟨rfl, rfl⟩, if_pos (by omega)]
    omega
  · rw [if_neg e]
    congr 1
    apply propext
    omega
theorem row_mid {n k : Nat} {r : Mat} (hs : Still n k r) (ho : One n r) (hk : k ≤ n) (I : Nat) (hI : I ≤ n) (c : Nat) (hc : c ≤ n + 1) :
    (cbRow k I c (midR n k r I 0) = some (midR n k r I c)) ∨ (cbRow k I c (midR n k r I 0) = none ∧ dplus (r I k) (r k I) < 1) := by
  induction c with
  | zero => exact .inl rfl
  | succ c ih =>
    rcases ih (by omega) with e | ⟨e, h⟩
    · have st : cbRow k I (c + 1) (midR n k r I 0) = cbStep k I c (midR n k r I c) := by simp [cbRow, e]
      rw [st]
      unfold cbStep
      rw [mid_here, mid_col hs I c I hI hk, mid_row hs I c c (by omega)]
      by_cases q : r I c ≤ dplus (r I k) (r k c)
      · rw [if_pos q]
        exact .inl (by rw [mid_next_same q])
      · rw [if_neg q]
        by_cases q2 : I = c
        · subst q2
          rw [if_pos rfl]
          have := ho I hI
          exact .inr ⟨rfl, by omega⟩
        · rw [if_neg q2, mid_next_upd q]
          exact .inl rfl
    · exact .inr ⟨by simp [cbRow, e], h⟩
theorem all_mid {n k : Nat} {r : Mat} (hs : Still n k r) (ho : One n r) (hk : k ≤ n) (c : Nat) (hc : c ≤ n + 1) :
    (cbAll k n c r = some (midR n k r c 0)) ∨ (cbAll k n c r = none ∧ ∃ i, i ≤ n ∧ dplus (r i k) (r k i) < 1) := by
  induction c with
  | zero =>
    refine .inl ?_
    show some r = _
    congr 1
    funext a c
    unfold midR
    rw [if_neg (by omega)]
  | succ c ih =>
    rcases ih (by omega) with e | ⟨e, h⟩
    · have st : cbAll k n (c + 1) r = cbRow k c (n + 1) (midR n k r c 0) := by simp [cbAll, e]
      rw [st]
      rcases row_mid hs ho hk c (by omega) (n + 1) (Nat.le_refl _) with e2 | ⟨e2, h2⟩
      · exact .inl (by rw [e2, midR_row])
      · exact .inr ⟨e2, c, by omega, h2⟩
    · exact .inr ⟨by simp [cbAll, e], h⟩
theorem mid_all (n k : Nat) (r : Mat) : midR n k r (n + 1) 0 = tgt n k r := by
  funext a c
  unfold midR tgt
  congr 1
  apply propext
  omega
/-- All entries are of this size. -/
def FinM (n : Nat) (K : Int) (r : Mat) : Prop := ∀ i j, i ≤ n → j ≤ n → Fin' K (r i j)
theorem still_of {n k : Nat} {r : Mat} {K : Int} (hK : K ≤ 1152921504606846976) (hf : FinM n K r) (ho : One n r) (hk : k ≤ n) : Still n k r := by
  refine ⟨fun i hi => ?_, fun j hj => ?_⟩
  · rw [dplus_pl (hf i k hi hk) (hf k k hk hk) hK, ho k hk, pl_one ((hf i k hi hk).mono hK)]
    omega
  · rw [dplus_pl (hf k k hk hk) (hf k j hk hj) hK, ho k hk, pl_comm, pl_one ((hf k j hk hj).mono hK)]
    omega
theorem fin_tgt {n k : Nat} {r : Mat} {K : Int} (hK : K ≤ 1152921504606846976) (h0 : 0 ≤ K) (hf : FinM n K r) (hk : k ≤ n) : FinM n (2 * K + 1) (tgt n k r) := by
  intro i j hi hj
  unfold tgt
  rw [if_pos ⟨hi, hj⟩, dplus_pl (hf i k hi hk) (hf k j hk hj) hK]
  have a := (hf i j hi hj).mono (show K ≤ 2 * K + 1 by omega)
  have b := pl_fin (hf i k hi hk) (hf k j hk hj)
  by_cases q : r i j ≤ pl (r i k) (r k j)
  · rw [show min (r i j) (pl (r i k) (r k j)) = r i j by omega]; exact a
  · rw [show min (r i j) (pl (r i k) (r k j)) = pl (r i k) (r k j) by omega]; exact b
/-! ### The inequality of triangles -/
def Tri (n K : Nat) (r : Mat) : Prop := ∀ k, k < K → ∀ i j, i ≤ n → j ≤ n → r i j ≤ pl (r i k) (r k j)
theorem tri_step {n K : Nat} {r : Mat} (hf : FinM n 144115188075855872 r) (ho : One n r) (hK : K ≤ n) (h1 : ∀ i, i ≤ n → 1 ≤ pl (r i K) (r K i)) (h : Tri n K r) : Tri n (K + 1) (tgt n K r) := by
  have ff : ∀ i j, i ≤ n → j ≤ n → F (r i j) := fun i j hi hj => (hf i j hi hj).mono (by decide)
  have fp : ∀ i j k l, i ≤ n → j ≤ n → k ≤ n → l ≤ n → F (pl (r i j) (r k l)) := fun i j k l hi hj hk hl => (pl_fin (hf i j hi hj) (hf k l hk hl)).mono (by decide)
  have T : ∀ i j, i ≤ n → j ≤ n → tgt n K r i j = min (r i j) (pl (r i K) (r K j)) := fun i j hi hj => by
    unfold tgt
    rw [if_pos ⟨hi, hj⟩, dplus_pl (hf i K hi hK) (hf K j hK hj) (by decide)]
  intro k hk i j hi hj
  have kn : k ≤ n := by omega
  rw [T i j hi hj, T i k hi kn, T k j kn hj]
  by_cases e : k = K
  · subst e
    have a : pl (r i k) (r k k) = r i k := by rw [ho k hK]; exact pl_one (ff i k hi hK)
    have b : pl (r k k) (r k j) = r k j := by rw [ho k hK, pl_comm]; exact pl_one (ff k j hK hj)
    rw [a, b]
    have : min (r i k) (r i k) = r i k := by omega
    rw [this]
    have : min (r k j) (r k j) = r k j := by omega
    rw [this]
    omega
  · have lt : k < K := by omega
    have g1 := h k lt i j hi hj
    have g2 := h k lt K j hK hj
    have g3 := h k lt i K hi hK
    have g4 := h k lt K K hK hK
    rw [ho K hK] at g4
    by_cases q1 : r i k ≤ pl (r i K) (r K k)
    · rw [show min (r i k) (pl (r i K) (r K k)) = r i k by omega]
      by_cases q2 : r k j ≤ pl (r k K) (r K j)
      · rw [show min (r k j) (pl (r k K) (r K j)) = r k j by omega]
        omega
      · rw [show min (r k j) (pl (r k K) (r K j)) = pl (r k K) (r K j) by omega]
        rw [← pl_assoc (ff i k hi kn) (ff k K kn hK) (ff K j hK hj)]
        have := pl_mono (ff i K hi hK) (ff K j hK hj) (fp i k k K hi kn kn hK) (ff K j hK hj) g3 (Int.le_refl _)
        omega
    · rw [show min (r i k) (pl (r i K) (r K k)) = pl (r i K) (r K k) by omega]
      by_cases q2 : r k j ≤ pl (r k K) (r K j)
      · rw [show min (r k j) (pl (r k K) (r K j)) = r k j by omega]
        rw [pl_assoc (ff i K hi hK) (ff K k hK kn) (ff k j kn hj)]
        have := pl_mono (ff i K hi hK) (ff K j hK hj) (ff i K hi hK) (fp K k k j hK kn kn hj) (Int.le_refl _) g2
        omega
      · rw [show min (r k j) (pl (r k K) (r K j)) = pl (r k K) (r K j) by omega]
        rw [pl_assoc (ff i K hi hK) (ff K k hK kn) (fp k K K j kn hK hK hj), ← pl_assoc (ff K k hK kn) (ff k K kn hK) (ff K j hK hj)]
        have a := pl_mono (a := 1) (b := r K j) (.inr (by decide)) (ff K j hK hj) (fp K k k K hK kn kn hK) (ff K j hK hj) g4 (Int.le_refl _)
        rw [pl_comm, pl_one (ff K j hK hj)] at a
        have x : F (pl (pl (r K k) (r k K)) (r K j)) := (pl_fin ((pl_fin (hf K k hK kn) (hf k K kn hK))) ((hf K j hK hj).mono (show (144115188075855872 : Int) ≤ 2 * 144115188075855872 + 1 by decide))).mono (by decide)
        have b := pl_mono (ff i K hi hK) (ff K j hK hj) (ff i K hi hK) x (Int.le_refl _) a
        omega
end Go.Proofs.YtdkolgndebkloaaGreatDoor

/-
  What is closed holds of just the same valuations; what is closed is closed again.
-/
namespace Go.Proofs.YtdkolgndebkloaaGreatDoor
open Go.RowKit
set_option linter.unusedVariables false
set_option maxRecDepth 100000
def Kb : Nat → Int
  | 0 => 1073741824
  | c + 1 => 2 * Kb c + 1
theorem Kb_bd : ∀ c, c < 10 → 0 ≤ Kb c ∧ Kb c ≤ 144115188075855872 := by decide
/-- Does a difference x, in parts of which g are 1, keep a wide bound? -/
def holdsW (b x g : Int) : Prop := b = opn ∨ (b % 2 = 1 ∧ 2 * x ≤ (b - 1) * g) ∨ (b % 2 = 0 ∧ 2 * x < b * g)
theorem holdsW_pl {a b x y g : Int} (h1 : holdsW a x g) (h2 : holdsW b y g) : holdsW (pl a b) (x + y) g := by
  have h3 := pl_cases a b
  unfold holdsW at *
  have ea : (a - 1) * g = a * g - g := by rw [Int.sub_mul, Int.one_mul]
  have eb : (b - 1) * g = b * g - g := by rw [Int.sub_mul, Int.one_mul]
  rcases h3 with ⟨_, e⟩ | ⟨n1, n2, ⟨e, q⟩ | ⟨e, q1, q2⟩⟩
  · exact .inl e
  · rw [e]
    have e1 : (a + b - 1 - 1) * g = a * g + b * g - g - g := by rw [Int.sub_mul, Int.sub_mul, Int.add_mul, Int.one_mul]
    have e2 : (a + b - 1) * g = a * g + b * g - g := by rw [Int.sub_mul, Int.add_mul, Int.one_mul]
    rw [e1, e2]
    rw [ea] at h1
    rw [eb] at h2
    generalize a * g = A at *
    generalize b * g = B at *
    omega
  · rw [e]
    have e2 : (a + b) * g = a * g + b * g := by rw [Int.add_mul]
    rw [e2]
    rw [ea] at h1
    rw [eb] at h2
    generalize a * g = A at *
    generalize b * g = B at *
    omega
theorem holdsW_mono {a b x g : Int} (hg : 1 ≤ g) (hb : F b) (h : a ≤ b) (h1 : holdsW a x g) : holdsW b x g := by
  by_cases e : b = opn
  · exact .inl e
  · unfold holdsW at *
    have ho := opn_val
    have na : ¬ a = opn := by unfold F Fin' at hb; omega
    have ea : (a - 1) * g = a * g - g := by rw [Int.sub_mul, Int.one_mul]
    have eb : (b - 1) * g = b * g - g := by rw [Int.sub_mul, Int.one_mul]
    rw [ea] at h1
    rw [eb]
    have m1 : a * g ≤ b * g := Int.mul_le_mul_of_nonneg_right h (by omega)
    by_cases q : a = b
    · subst q; exact h1
    · have m2 : (a + 1) * g ≤ b * g := Int.mul_le_mul_of_nonneg_right (by omega) (by omega)
      rw [Int.add_mul, Int.one_mul] at m2
      generalize a * g = A at *
      generalize b * g = B at *
      omega
theorem holdsW_zero {b g : Int} (hg : 1 ≤ g) (h : holdsW b 0 g) : 1 ≤ b := by
  unfold holdsW at h
  have ho := opn_val
  rcases h with h | ⟨h1, h2⟩ | ⟨h1, h2⟩
  · omega
  · apply Classical.byContradiction
    intro q
    have : (b - 1) * g ≤ (-2) * g := Int.mul_le_mul_of_nonneg_right (by omega) (by omega)
    omega
  · apply Classical.byContradiction
    intro q
    have : b * g ≤ 0 * g := Int.mul_le_mul_of_nonneg_right (by omega) (by omega)
    omega
def keepsM (n : Nat) (v : Nat → Int) (g : Int) (r : Mat) : Prop := ∀ i j, i ≤ n → j ≤ n → holdsW (r i j) (v i - v j) g
theorem keeps_tgt {n k : Nat} {v : Nat → Int} {g K : Int} {r : Mat} (hK : K ≤ 1152921504606846976) (hf : FinM n K r) (hk : k ≤ n) (h : keepsM n v g r) : keepsM n v g (tgt n k r) := by
  intro i j hi hj
  unfold tgt
  rw [if_pos ⟨hi, hj⟩, dplus_pl (hf i k hi hk) (hf k j hk hj) hK]
  by_cases q : r i j ≤ pl (r i k) (r k j)
  · rw [show min (r i j) (pl (r i k) (r k j)) = r i j by omega]
    exact h i j hi hj
  · rw [show min (r i j) (pl (r i k) (r k j)) = pl (r i k) (r k j) by omega]
    have := holdsW_pl (h i k hi hk) (h k j hk hj)
    rw [show v i - v k + (v k - v j) = v i - v j by omega] at this
    exact this
theorem fin_mono {n : Nat} {K L : Int} {r : Mat} (h : FinM n K r) (hK : K ≤ L) : FinM n L r := fun i j hi hj => (h i j hi hj).mono hK
/-- What the rounds leave. -/
structure Rounds (n c : Nat) (r p : Mat) : Prop where
  fin : FinM n (Kb c) p
  one : One n p
  tri : Tri n c p
  le : ∀ i j, i ≤ n → j ≤ n → p i j ≤ r i j
  out : ∀ i j, ¬ (i ≤ n ∧ j ≤ n) → p i j = r i j
theorem rounds_of {n : Nat} {r : Mat} (hn : n ≤ 8) (hf : FinM n (Kb 0) r) (ho : One n r) (c : Nat) (hc : c ≤ n + 1) : ∀ p, clAll n c r = some p → Rounds n c r p := by
  induction c with
  | zero =>
    intro p e
    have e : r = p := by simpa [clAll] using e
    subst e
    exact ⟨hf, ho, fun k hk => by omega, fun _ _ _ _ => Int.le_refl _, fun _ _ _ => rfl⟩
  | succ c ih =>
    intro p e
    cases eq : clAll n c r with
    | none => simp [clAll, eq] at e
    | some q =>
      have R := ih (by omega) q eq
      have e : cbAll c n (n + 1) q = some p := by simpa [clAll, eq] using e
      have bd := Kb_bd c (by omega)
      have hs := still_of (k := c) (by omega) R.fin R.one (by omega)
      have op : One n p := by
        rcases all_both R.one c (n + 1) (Nat.le_refl _) with ⟨e2, o2⟩ | ⟨e2, _⟩
        · rw [e] at e2
          cases e2
          exact o2
        · rw [e] at e2
          cases e2
      rcases all_mid hs R.one (by omega) (n + 1) (Nat.le_refl _) with e2 | ⟨e2, _⟩
      · rw [e, mid_all] at e2
        have e2 : p = tgt n c q := by simpa using e2
        have ge : ∀ i, i ≤ n → 1 ≤ pl (q i c) (q c i) := fun i hi => by
          have := op i hi
          rw [e2] at this
          unfold tgt at this
          rw [if_pos ⟨hi, hi⟩, dplus_pl (R.fin i c hi (by omega)) (R.fin c i (by omega) hi) (by omega)] at this
          omega
        refine ⟨?_, op, ?_, fun i j hi hj => ?_, fun i j h => ?_⟩
        · rw [e2]
          exact fin_tgt (by omega) bd.1 R.fin (by omega)
        · rw [e2]
          exact tri_step (fin_mono R.fin bd.2) R.one (by omega) ge R.tri
        · have := R.le i j hi hj
          rw [e2]
          unfold tgt
          rw [if_pos ⟨hi, hj⟩]
          omega
        · rw [e2]
          unfold tgt
          rw [if_neg h]
          exact R.out i j h
      · rw [e] at e2
        cases e2
theorem rounds_keep {n : Nat} {r : Mat} {v : Nat → Int} {g : Int} (hg : 1 ≤ g) (hn : n ≤ 8) (hf : FinM n (Kb 0) r) (ho : One n r) (hk : keepsM n v g r) (c : Nat) (hc : c ≤ n + 1) : ∃ p, clAll n c r = some p ∧ keepsM n v g p := by
  induction c with
  | zero => exact ⟨r, rfl, hk⟩
  | succ c ih =>
    obtain ⟨q, eq, kq⟩ := ih (by omega)
    have R := rounds_of hn hf ho c (by omega) q eq
    have bd := Kb_bd c (by omega)
    have hs := still_of (k := c) (by omega) R.fin R.one (by omega)
    rcases all_mid hs R.one (by omega) (n + 1) (Nat.le_refl _) with e2 | ⟨e2, i, hi, h⟩
    · exact ⟨midR n c q (n + 1) 0, by simp [clAll, eq, e2], by rw [mid_all]; exact keeps_tgt (by omega) R.fin (by omega) kq⟩
    · exfalso
      rw [dplus_pl (R.fin i c hi (by omega)) (R.fin c i (by omega) hi) (by omega)] at h
      have := holdsW_pl (kq i c hi (by omega)) (kq c i (by omega) hi)
      rw [show v i - v c + (v c - v i) = 0 by omega] at this
      have := holdsW_zero hg this
      omega
/-- Closing: it holds of the same valuations. -/
theorem close_keep {n : Nat} {r : Mat} {v : Nat → Int} {g : Int} (hg : 1 ≤ g) (hn : n ≤ 8) (hf : FinM n (Kb 0) r) (hd : ∀ i, i ≤ n → r i i ≤ 1) :
    keepsM n v g r ↔ ∃ p, closeR n r = some p ∧ keepsM n v g p := by
  constructor
  · intro h
    have ho : One n r := fun i hi => by
      have := h i i hi hi
      rw [show v i - v i = 0 by omega] at this
      have := holdsW_zero hg this
      have := hd i hi
      omega
    obtain ⟨p, e, k⟩ := rounds_keep hg hn hf ho h (n + 1) (Nat.le_refl _)
    refine ⟨p, ?_, k⟩
    unfold closeR
    rw [ho.ok]
    exact e
  · rintro ⟨p, e, k⟩
    unfold closeR at e
    cases d : diagOk n r (n + 1)
    · rw [d] at e
      cases e
    · rw [d] at e
      have e : clAll n (n + 1) r = some p := e
      have ho : One n r := fun i hi => by
        have := (diagOk_iff _ _ _).1 d i (by omega)
        have := hd i hi
        omega
      have R := rounds_of hn hf ho (n + 1) (Nat.le_refl _) p e
      intro i j hi hj
      exact holdsW_mono hg ((hf i j hi hj).mono (by decide)) (R.le i j hi hj) (k i j hi hj)
theorem close_rounds {n : Nat} {r p : Mat} (hn : n ≤ 8) (hf : FinM n (Kb 0) r) (hd : ∀ i, i ≤ n → r i i ≤ 1) (e : closeR n r = some p) : Rounds n (n + 1) r p := by
  unfold closeR at e
  cases d : diagOk n r (n + 1)
  · rw [d] at e
    cases e
  · rw [d] at e
    have ho : One n r := fun i hi => by
      have := (diagOk_iff _ _ _).1 d i (by omega)
      have := hd i hi
      omega
    exact rounds_of hn hf ho (n + 1) (Nat.le_refl _) p e
/-- What keeps the inequality of triangles is closed. -/
theorem close_closed {n : Nat} {p : Mat} (hn : n ≤ 8) (hf : FinM n 144115188075855872 p) (ho : One n p) (ht : Tri n (n + 1) p) : closeR n p = some p := by
  unfold closeR
  rw [ho.ok]
  show clAll n (n + 1) p = some p
  have H : ∀ c, c ≤ n + 1 → clAll n c p = some p := by
    intro c
    induction c with
    | zero => exact fun _ => rfl
    | succ c ih =>
      intro hc
      have hs := still_of (k := c) (by decide) hf ho (by omega)
      have st : clAll n (c + 1) p = cbAll c n (n + 1) p := by simp [clAll, ih (by omega)]
      rw [st]
      rcases all_mid hs ho (by omega) (n + 1) (Nat.le_refl _) with e2 | ⟨e2, i, hi, h⟩
      · rw [e2, mid_all]
        congr 1
        funext i j
        unfold tgt
        split
        · rename_i q
          have := ht c (by omega) i j q.1 q.2
          rw [dplus_pl (hf i c q.1 (by omega)) (hf c j (by omega) q.2) (by decide)]
          omega
        · rfl
      · exfalso
        rw [dplus_pl (hf i c hi (by omega)) (hf c i (by omega) hi) (by decide)] at h
        have := ht c (by omega) i i hi hi
        rw [ho i hi] at this
        omega
  exact H (n + 1) (Nat.le_refl _)
end Go.Proofs.YtdkolgndebkloaaGreatDoor

/-
  Valuations on the grid of n + 1: raised till all bounds of a closed form are kept, each clock as little as can be; behind as many rounds as there are clocks, and two, all are kept.
-/
namespace Go.Proofs.YtdkolgndebkloaaGreatDoor
open Go.RowKit
set_option linter.unusedVariables false
set_option maxRecDepth 100000
/-- What a bound asks for, in units of the grid. -/
def gW (b g : Int) : Int := b / 2 * g - (if b % 2 = 1 then 0 else 1)
/-- A closed form of n clocks that is not empty. -/
structure Closed (n : Nat) (p : Mat) : Prop where
  fin : FinM n 144115188075855872 p
  one : One n p
  tri : Tri n (n + 1) p
  low : ∀ j, j ≤ n → p 0 j ≤ 1
/-- The least that a clock may be. -/
def lowL (p : Mat) (j : Nat) : Int := -(p 0 j / 2)
theorem pl_num {a b : Int} (h : ¬ a = opn) (h' : ¬ b = opn) : ¬ pl a b = opn → pl a b / 2 = a / 2 + b / 2 ∧ (pl a b % 2 = 1 ↔ a % 2 = 1 ∧ b % 2 = 1) := by
  intro _
  have := pl_cases a b
  omega
theorem low_fin {n : Nat} {p : Mat} (h : Closed n p) (j : Nat) (hj : j ≤ n) : ¬ p 0 j = opn := by
  have := h.low j hj
  have ho := opn_val
  omega
theorem low_nonneg {n : Nat} {p : Mat} (h : Closed n p) (j : Nat) (hj : j ≤ n) : 0 ≤ lowL p j := by
  have := h.low j hj
  unfold lowL
  omega
theorem low_zero {n : Nat} {p : Mat} (h : Closed n p) : lowL p 0 = 0 := by
  have := h.one 0 (by omega)
  unfold lowL
  rw [this]
  decide
/-- A way by a third clock. -/
theorem via {n : Nat} {p : Mat} (h : Closed n p) (i k j : Nat) (hi : i ≤ n) (hk : k ≤ n) (hj : j ≤ n) (f1 : ¬ p i k = opn) (f2 : ¬ p k j = opn) :
    ¬ p i j = opn ∧ p i j / 2 ≤ p i k / 2 + p k j / 2 ∧ (p i j / 2 = p i k / 2 + p k j / 2 → p i j % 2 = 1 → p i k % 2 = 1 ∧ p k j % 2 = 1) := by
  have t := h.tri k (by omega) i j hi hj
  have c := pl_cases (p i k) (p k j)
  have ho := opn_val
  have a := h.fin i k hi hk
  have b := h.fin k j hk hj
  have d := h.fin i j hi hj
  unfold Fin' at a b d
  omega
theorem low_le {n : Nat} {p : Mat} (h : Closed n p) (i j : Nat) (hi : i ≤ n) (hj : j ≤ n) (f : ¬ p i j = opn) : lowL p i - p i j / 2 ≤ lowL p j := by
  have := via h 0 i j (by omega) hi hj (low_fin h i hi) f
  unfold lowL
  omega
def tight (p : Mat) (i j : Nat) : Prop := ¬ p i j = opn ∧ lowL p j = lowL p i - p i j / 2
def sB (p : Mat) (i j : Nat) : Bool := !decide (p i j = opn) && decide (p i j % 2 = 0) && decide (lowL p j = lowL p i - p i j / 2)
theorem sB_iff (p : Mat) (i j : Nat) : sB p i j = true ↔ tight p i j ∧ p i j % 2 = 0 := by
  unfold sB tight
  simp
  constructor
  · rintro ⟨⟨a, b⟩, c⟩; exact ⟨⟨a, c⟩, b⟩
  · rintro ⟨⟨a, c⟩, b⟩; exact ⟨⟨a, b⟩, c⟩
theorem tight_trans {n : Nat} {p : Mat} (h : Closed n p) {i k j : Nat} (hi : i ≤ n) (hk : k ≤ n) (hj : j ≤ n) (t1 : tight p i k) (t2 : tight p k j) : tight p i j ∧ (p i k % 2 = 0 ∨ p k j % 2 = 0 → p i j % 2 = 0) := by
  obtain ⟨f1, e1⟩ := t1
  obtain ⟨f2, e2⟩ := t2
  have v := via h i k j hi hk hj f1 f2
  have l := low_le h i j hi hj v.1
  refine ⟨⟨v.1, by omega⟩, fun q => ?_⟩
  have e : p i j / 2 = p i k / 2 + p k j / 2 := by omega
  apply Classical.byContradiction
  intro q2
  have := v.2.2 e (by omega)
  omega
theorem sB_self {n : Nat} {p : Mat} (h : Closed n p) (i : Nat) (hi : i ≤ n) : sB p i i = false := by
  cases e : sB p i i
  · rfl
  · have := ((sB_iff p i i).1 e).2
    rw [h.one i hi] at this
    omega
theorem sB_tight {n : Nat} {p : Mat} (h : Closed n p) {x i j : Nat} (hx : x ≤ n) (hi : i ≤ n) (hj : j ≤ n) (s : sB p x i = true) (t : tight p i j) : sB p x j = true := by
  obtain ⟨t1, e1⟩ := (sB_iff p x i).1 s
  have := tight_trans h hx hi hj t1 t
  exact (sB_iff p x j).2 ⟨this.1, this.2 (.inl e1)⟩
/-- There are so many clocks, one strictly ahead of the other, up to this one. -/
def chain (n : Nat) (p : Mat) : Nat → Nat → Prop
  | 0, _ => True
  | k + 1, j => ∃ i, i ≤ n ∧ sB p i j = true ∧ chain n p k i
theorem chain_tight {n : Nat} {p : Mat} (h : Closed n p) {k i j : Nat} (hi : i ≤ n) (hj : j ≤ n) (t : tight p i j) (c : chain n p k i) : chain n p k j := by
  cases k with
  | zero => trivial
  | succ k =>
    obtain ⟨x, hx, s, c⟩ := c
    exact ⟨x, hx, sB_tight h hx hi hj s t, c⟩
theorem countP_lt {f g : Nat → Bool} : ∀ (l : List Nat), (∀ x ∈ l, f x = true → g x = true) → ∀ a, a ∈ l → f a = false → g a = true → l.countP f < l.countP g := by
  intro l
  induction l with
  | nil => intro _ a h; cases h
  | cons x l ih =>
    intro hfg a ha fa ga
    have le : ∀ l : List Nat, (∀ x ∈ l, f x = true → g x = true) → l.countP f ≤ l.countP g := fun l h => List.countP_mono_left h
    rw [List.countP_cons, List.countP_cons]
    rcases List.mem_cons.1 ha with e | ha'
    · subst e
      have := le l (fun y hy => hfg y (List.mem_cons_of_mem _ hy))
      simp [fa, ga]
      omega
    · have i := ih (fun y hy => hfg y (List.mem_cons_of_mem _ hy)) a ha' fa ga
      have := hfg x (List.mem_cons_self ..)
      cases e : f x
      · cases e2 : g x <;> simp <;> omega
      · rw [this e]
        simp
        omega
def cnt (n : Nat) (p : Mat) (j : Nat) : Nat := (List.range (n + 1)).countP fun i => sB p i j
theorem cnt_lt {n : Nat} {p : Mat} (h : Closed n p) {i j : Nat} (hi : i ≤ n) (hj : j ≤ n) (s : sB p i j = true) : cnt n p i < cnt n p j := by
  refine countP_lt _ (fun x hx e => ?_) i (List.mem_range.2 (by omega)) (sB_self h i hi) s
  have := List.mem_range.1 hx
  exact sB_tight h (by omega) hi hj e ((sB_iff p i j).1 s).1
theorem cnt_le {n : Nat} {p : Mat} (h : Closed n p) {j : Nat} (hj : j ≤ n) : cnt n p j ≤ n := by
  have := countP_lt (f := fun i => sB p i j) (g := fun _ => true) (List.range (n + 1)) (fun _ _ _ => rfl) j (List.mem_range.2 (by omega)) (sB_self h j hj) rfl
  unfold cnt
  simp at this
  omega
theorem chain_le {n : Nat} {p : Mat} (h : Closed n p) : ∀ k j, j ≤ n → chain n p k j → k ≤ n := by
  have H : ∀ k j, j ≤ n → chain n p k j → k ≤ cnt n p j := by
    intro k
    induction k with
    | zero => intro j _ _; omega
    | succ k ih =>
      rintro j hj ⟨i, hi, s, c⟩
      have := ih i hi c
      have := cnt_lt h hi hj s
      omega
  intro k j hj c
  have := H k j hj c
  have := cnt_le h hj
  omega
/-! ### The rounds -/
abbrev Val := Nat → Int
def updV (v : Val) (j : Nat) (x : Int) : Val := fun a => if a = j then x else v a
def gStep (p : Mat) (g : Int) (i j : Nat) (v : Val) : Val := if p i j = opn then v else if v j < v i - gW (p i j) g then updV v j (v i - gW (p i j) g) else v
def gRow (p : Mat) (g : Int) (i : Nat) : Nat → Val → Val
  | 0, v => v
  | c + 1, v => gStep p g i c (gRow p g i c v)
def gAll (n : Nat) (p : Mat) (g : Int) : Nat → Val → Val
  | 0, v => v
  | c + 1, v => gRow p g c (n + 1) (gAll n p g c v)
def gRounds (n : Nat) (p : Mat) (g : Int) : Nat → Val → Val
  | 0, v => v
  | c + 1, v => gAll n p g (n + 1) (gRounds n p g c v)
theorem gStep_le (p : Mat) (g : Int) (i j : Nat) (v : Val) (a : Nat) : v a ≤ gStep p g i j v a := by
  unfold gStep
  split
  · exact Int.le_refl _
  · split
    · unfold updV
      split
      · rename_i e
        subst e
        omega
      · exact Int.le_refl _
    · exact Int.le_refl _
theorem gRow_le (p : Mat) (g : Int) (i c : Nat) (v : Val) (a : Nat) : v a ≤ gRow p g i c v a := by
  induction c with
  | zero => exact Int.le_refl _
  | succ c ih => exact Int.le_trans ih (gStep_le p g i c _ a)
theorem gAll_le (n : Nat) (p : Mat) (g : Int) (c : Nat) (v : Val) (a : Nat) : v a ≤ gAll n p g c v a := by
  induction c with
  | zero => exact Int.le_refl _
  | succ c ih => exact Int.le_trans ih (gRow_le p g c _ _ a)
theorem gStep_at (p : Mat) (g : Int) (i j : Nat) (v : Val) (f : ¬ p i j = opn) : v i - gW (p i j) g ≤ gStep p g i j v j := by
  unfold gStep
  rw [if_neg f]
  split
  · unfold updV
    rw [if_pos rfl]
    exact Int.le_refl _
  · omega
theorem gRow_at (p : Mat) (g : Int) (i : Nat) (v : Val) (c : Nat) : ∀ j, j < c → ¬ p i j = opn → v i - gW (p i j) g ≤ gRow p g i c v j := by
  induction c with
  | zero => intro j hj; omega
  | succ c ih =>
    intro j hj f
    by_cases e : j = c
    · subst e
      have a := gStep_at p g i j (gRow p g i j v) f
      have b := gRow_le p g i j v i
      show _ ≤ gStep p g i j (gRow p g i j v) j
      omega
    · exact Int.le_trans (ih j (by omega) f) (gStep_le p g i c _ j)
theorem gAll_at (n : Nat) (p : Mat) (g : Int) (v : Val) (c : Nat) : ∀ i j, i < c → j ≤ n → ¬ p i j = opn → v i - gW (p i j) g ≤ gAll n p g c v j := by
  induction c with
  | zero => intro i j hi; omega
  | succ c ih =>
    intro i j hi hj f
    by_cases e : i = c
    · subst e
      have a := gRow_at p g i (gAll n p g i v) (n + 1) j (by omega) f
      have b := gAll_le n p g i v i
      show _ ≤ gRow p g i (n + 1) (gAll n p g i v) j
      omega
    · exact Int.le_trans (ih i j (by omega) hj f) (gRow_le p g c _ _ j)
/-- Nobody is higher than a chain up to him asks for. -/
def Upper (n : Nat) (p : Mat) (g : Int) (v : Val) : Prop := ∀ j, j ≤ n → ∃ q : Nat, chain n p q j ∧ v j ≤ lowL p j * g + q
theorem upper_step {n : Nat} {p : Mat} {g : Int} (h : Closed n p) (hg : g = n + 1) {i j : Nat} (hi : i ≤ n) (hj : j ≤ n) {v : Val} (u : Upper n p g v) : Upper n p g (gStep p g i j v) := by
  intro a ha
  unfold gStep
  split
  · exact u a ha
  · rename_i f
    split
    · unfold updV
      split
      · rename_i e
        subst e
        obtain ⟨q, c, le⟩ := u i hi
        have ql := chain_le h q i hi c
        have ll := low_le h i a hi ha f
        unfold gW
        by_cases t : lowL p a = lowL p i - p i a / 2
        · have eq : lowL p a * g = lowL p i * g - p i a / 2 * g := by rw [t, Int.sub_mul]
          by_cases o : p i a % 2 = 1
          · exact ⟨q, chain_tight h hi ha ⟨f, t⟩ c, by rw [if_pos o]; omega⟩
          · refine ⟨q + 1, ⟨i, hi, (sB_iff p i a).2 ⟨⟨f, t⟩, by omega⟩, c⟩, ?_⟩
            rw [if_neg o]
            omega
        · refine ⟨0, trivial, ?_⟩
          have m : (lowL p i - p i a / 2 + 1) * g ≤ lowL p a * g := Int.mul_le_mul_of_nonneg_right (by omega) (by omega)
          rw [Int.add_mul, Int.sub_mul, Int.one_mul] at m
          split <;> omega
      · exact u a ha
    · exact u a ha
theorem upper_row {n : Nat} {p : Mat} {g : Int} (h : Closed n p) (hg : g = n + 1) {i : Nat} (hi : i ≤ n) {v : Val} (u : Upper n p g v) (c : Nat) (hc : c ≤ n + 1) : Upper n p g (gRow p g i c v) := by
  induction c with
  | zero => exact u
  | succ c ih => exact upper_step h hg hi (by omega) (ih (by omega))
theorem upper_all {n : Nat} {p : Mat} {g : Int} (h : Closed n p) (hg : g = n + 1) {v : Val} (u : Upper n p g v) (c : Nat) (hc : c ≤ n + 1) : Upper n p g (gAll n p g c v) := by
  induction c with
  | zero => exact u
  | succ c ih => exact upper_row h hg (by omega) (ih (by omega)) (n + 1) (Nat.le_refl _)
theorem upper_rounds {n : Nat} {p : Mat} {g : Int} (h : Closed n p) (hg : g = n + 1) {v : Val} (u : Upper n p g v) (c : Nat) : Upper n p g (gRounds n p g c v) := by
  induction c with
  | zero => exact u
  | succ c ih => exact upper_all h hg ih (n + 1) (Nat.le_refl _)
theorem upper_start {n : Nat} {p : Mat} {g : Int} (h : Closed n p) (hg : g = n + 1) : Upper n p g (fun _ => 0) := fun j hj => by
  refine ⟨0, trivial, ?_⟩
  have := Int.mul_nonneg (low_nonneg h j hj) (show 0 ≤ g by omega)
  show (0 : Int) ≤ _
  omega
def Lower (n : Nat) (p : Mat) (g : Int) (k : Nat) (v : Val) : Prop := ∀ j, j ≤ n → ∀ q : Nat, q ≤ k → chain n p q j → lowL p j * g + q ≤ v j
theorem rounds_nonneg (n : Nat) (p : Mat) (g : Int) (c : Nat) (a : Nat) : 0 ≤ gRounds n p g c (fun _ => 0) a := by
  induction c with
  | zero => exact Int.le_refl _
  | succ c ih => exact Int.le_trans ih (gAll_le n p g _ _ a)
theorem lower_rounds {n : Nat} {p : Mat} {g : Int} (h : Closed n p) (hg : g = n + 1) (c : Nat) : Lower n p g c (gRounds n p g (c + 1) (fun _ => 0)) := by
  have base : ∀ c j, j ≤ n → lowL p j * g ≤ gRounds n p g (c + 1) (fun _ => 0) j := fun c j hj => by
    have a := gAll_at n p g (gRounds n p g c (fun _ => 0)) (n + 1) 0 j (by omega) hj (low_fin h j hj)
    have b := rounds_nonneg n p g c 0
    show _ ≤ gAll n p g (n + 1) (gRounds n p g c (fun _ => 0)) j
    have e : lowL p j * g = -(p 0 j / 2 * g) := by unfold lowL; rw [Int.neg_mul]
    unfold gW at a
    split at a <;> omega
  induction c with
  | zero =>
    intro j hj q hq _
    have := base 0 j hj
    obtain rfl : q = 0 := by omega
    show _ + 0 ≤ _
    omega
  | succ c ih =>
    intro j hj q hq ch
    cases q with
    | zero =>
      have := base (c + 1) j hj
      show _ + 0 ≤ _
      omega
    | succ q =>
      obtain ⟨i, hi, s, ch⟩ := ch
      obtain ⟨⟨f, t⟩, ev⟩ := (sB_iff p i j).1 s
      have a := ih i hi q (by omega) ch
      have b := gAll_at n p g (gRounds n p g (c + 1) (fun _ => 0)) (n + 1) i j (by omega) hj f
      show _ ≤ gAll n p g (n + 1) (gRounds n p g (c + 1) (fun _ => 0)) j
      have eq : lowL p j * g = lowL p i * g - p i j / 2 * g := by rw [t, Int.sub_mul]
      unfold gW at b
      rw [if_neg (by omega)] at b
      push_cast
      omega
/-- Behind n + 2 rounds all bounds are kept. -/
theorem inside_keeps {n : Nat} {p : Mat} {g : Int} (h : Closed n p) (hg : g = n + 1) : keepsM n (gRounds n p g (n + 2) (fun _ => 0)) g p := by
  have up := upper_rounds h hg (upper_start h hg) (n + 2)
  have lo := lower_rounds h hg (n + 1)
  have hlo : Lower n p g (n + 1) (gRounds n p g (n + 2) (fun _ => 0)) := lo
  intro i j hi hj
  by_cases f : p i j = opn
  · exact .inl f
  · obtain ⟨q, c, le⟩ := up i hi
    have ql := chain_le h q i hi c
    have ll := low_le h i j hi hj f
    generalize gRounds n p g (n + 2) (fun _ => 0) = v at *
    have key : v i - v j ≤ gW (p i j) g := by
      unfold gW
      by_cases t : lowL p j = lowL p i - p i j / 2
      · have eq : lowL p j * g = lowL p i * g - p i j / 2 * g := by rw [t, Int.sub_mul]
        by_cases o : p i j % 2 = 1
        · have := hlo j hj q (by omega) (chain_tight h hi hj ⟨f, t⟩ c)
          rw [if_pos o]
          omega
        · have := hlo j hj (q + 1) (by omega) ⟨i, hi, (sB_iff p i j).2 ⟨⟨f, t⟩, by omega⟩, c⟩
          rw [if_neg o]
          push_cast at this
          omega
      · have m : (lowL p i - p i j / 2 + 1) * g ≤ lowL p j * g := Int.mul_le_mul_of_nonneg_right (by omega) (by omega)
        rw [Int.add_mul, Int.sub_mul, Int.one_mul] at m
        have := hlo j hj 0 (by omega) trivial
        split <;> omega
    unfold gW at key
    unfold holdsW
    by_cases o : p i j % 2 = 1
    · refine .inr (.inl ⟨o, ?_⟩)
      rw [if_pos o] at key
      have e : (p i j - 1) * g = 2 * (p i j / 2 * g) := by rw [← Int.mul_assoc, show p i j - 1 = 2 * (p i j / 2) by omega]
      omega
    · refine .inr (.inr ⟨by omega, ?_⟩)
      rw [if_neg o] at key
      have e : p i j * g = 2 * (p i j / 2 * g) := by rw [← Int.mul_assoc, show 2 * (p i j / 2) = p i j by omega]
      omega
end Go.Proofs.YtdkolgndebkloaaGreatDoor

/-
  Which bounds a point keeps, as a test (no call).
-/
namespace Go.Proofs.YtdkolgndebkloaaGreatDoor
open Go.RowKit
set_option linter.unusedVariables false
def holdsF (b n d : Int) : Bool := decide (b = 2147483647) || (finB b && decide (1 ≤ d) && (if valR b then decide (n ≤ valV b * d) else decide (n < valV b * d)))
def kRow (n : Nat) (l : List Int) (v : Nat → Int) (g : Int) (i : Nat) : Bool := (List.range (n + 1)).all fun j => holdsF (l.getD (i * (n + 1) + j) 0) (v i - v j) g
def kB (n : Nat) (l : List Int) (v : Nat → Int) (g : Int) : Bool := (List.range (n + 1)).all fun i => kRow n l v g i
theorem kRow_iff (n : Nat) (l : List Int) (v : Nat → Int) (g : Int) (i : Nat) : kRow n l v g i = true ↔ ∀ j, j ≤ n → holdsF (l.getD (i * (n + 1) + j) 0) (v i - v j) g = true := by
  unfold kRow
  rw [List.all_eq_true]
  constructor
  · intro h j hj
    exact h j (List.mem_range.2 (by omega))
  · intro h j hj
    have := List.mem_range.1 hj
    exact h j (by omega)
theorem kB_iff (n : Nat) (l : List Int) (v : Nat → Int) (g : Int) : kB n l v g = true ↔ ∀ i j, i ≤ n → j ≤ n → holdsF (l.getD (i * (n + 1) + j) 0) (v i - v j) g = true := by
  unfold kB
  rw [List.all_eq_true]
  constructor
  · intro h i j hi hj
    exact (kRow_iff n l v g i).1 (h i (List.mem_range.2 (by omega))) j hj
  · intro h i hi
    have := List.mem_range.1 hi
    exact (kRow_iff n l v g i).2 fun j hj => h i j (by omega) hj
theorem kB_no (n : Nat) (l : List Int) (v : Nat → Int) (g : Int) (i j : Nat) (hi : i ≤ n) (hj : j ≤ n) (h : holdsF (l.getD (i * (n + 1) + j) 0) (v i - v j) g = false) : kB n l v g = false := by
  cases e : kB n l v g
  · rfl
  · have := (kB_iff n l v g).1 e i j hi hj
    rw [h] at this
    cases this
end Go.Proofs.YtdkolgndebkloaaGreatDoor

/-
  Zones are their valuations: the numbers keep the cells that were handed in just if they keep the closed ones, and it is not empty; and the zone of closed cells is that zone.
-/
namespace Go.Proofs.YtdkolgndebkloaaGreatDoor
open Go.RowKit
set_option linter.unusedVariables false
set_option maxRecDepth 100000
theorem hB_inf (x g : Int) : holdsF 2147483647 x g = true := by unfold holdsF; simp
theorem hB_iff {b x g : Int} (hb : -536870912 ≤ b ∧ b ≤ 536870913) (hg : 1 ≤ g) : holdsF b x g = true ↔ holdsW b x g := by
  have hf : finB b = true := by unfold finB; simpa using hb
  have hv : valV b = b / 2 := by simp [valV, hf]
  have ho := opn_val
  have d2 : decide (1 ≤ g) = true := by simpa using hg
  have b2 : decide (b = 2147483647) = false := by simp; omega
  unfold holdsF holdsW
  rw [hf, d2, b2, hv]
  by_cases q : b % 2 = 1
  · have hr : valR b = true := by unfold valR; rw [hf]; simpa using q
    have e : (b - 1) * g = 2 * (b / 2 * g) := by rw [← Int.mul_assoc, show b - 1 = 2 * (b / 2) by omega]
    rw [hr, e]
    generalize b / 2 * g = z
    simp
    omega
  · have hr : valR b = false := by unfold valR; rw [hf]; simpa using q
    have e : b * g = 2 * (b / 2 * g) := by rw [← Int.mul_assoc, show b = 2 * (b / 2) by omega]; congr 1; omega
    rw [hr, e]
    generalize b / 2 * g = z
    simp
    omega
theorem tgV_holds {a x y g : Int} (hg : 1 ≤ g) (ha : F a) (hx : x = 2147483647 ∨ (-536870912 ≤ x ∧ x ≤ 536870913)) : holdsW (tgV a x) y g ↔ holdsW a y g ∧ holdsF x y g = true := by
  unfold tgV
  by_cases e : x = 2147483647
  · rw [if_pos e, e, hB_inf]
    simp
  · rw [if_neg e]
    have hx' : -536870912 ≤ x ∧ x ≤ 536870913 := by omega
    have fx : F x := .inr (by omega)
    rw [hB_iff hx' hg]
    by_cases q : a ≤ x
    · rw [show min a x = a by omega]
      exact ⟨fun h => ⟨h, holdsW_mono hg fx q h⟩, fun h => h.1⟩
    · rw [show min a x = x by omega]
      exact ⟨fun h => ⟨holdsW_mono hg ha (by omega) h, h⟩, fun h => h.2⟩
theorem start_at (n i j : Nat) (hi : i ≤ n) (hj : j ≤ n) : startR n (n + 1) 0 i j = startV i j := by
  unfold startR
  rw [if_pos (by omega)]
theorem start_holds {n : Nat} {v : Nat → Int} {g : Int} (hg : 1 ≤ g) (v0 : v 0 = 0) (vp : ∀ i, 0 ≤ v i) (i j : Nat) : holdsW (startV i j) (v i - v j) g := by
  unfold startV
  split
  · exact .inl rfl
  · rename_i h
    refine .inr (.inl ⟨by decide, ?_⟩)
    rw [show (1 : Int) - 1 = 0 by omega, Int.zero_mul]
    by_cases e : i = 0
    · rw [e, v0]
      have := vp j
      omega
    · have : i = j := by omega
      rw [this]
      omega
/-- The cells that were handed in, as a draft. -/
abbrev drf (n m : Nat) (l : List Int) : Mat := tgAll n l m (startR n (n + 1) 0)
theorem drf_at (n m : Nat) (l : List Int) (hm : m = (n + 1) * (n + 1)) (i j : Nat) (hi : i ≤ n) (hj : j ≤ n) : drf n m l i j = tgV (startV i j) (l.getD (i * (n + 1) + j) 0) := by
  unfold drf
  rw [tgAll_at _ _ _ _ (by omega), if_pos ⟨hi, hj, by rw [hm]; exact pos_lt hi hj⟩, start_at n i j hi hj]
theorem drf_out (n m : Nat) (l : List Int) (hm : m = (n + 1) * (n + 1)) (i j : Nat) (h : ¬ (i ≤ n ∧ j ≤ n)) : drf n m l i j = startR n (n + 1) 0 i j := by
  unfold drf
  rw [tgAll_at _ _ _ _ (by omega), if_neg (by omega)]
def RightL (m : Nat) (l : List Int) : Prop := ∀ k, k < m → l.getD k 0 = 2147483647 ∨ (-536870912 ≤ l.getD k 0 ∧ l.getD k 0 ≤ 536870913)
theorem startV_fin (i j : Nat) : Fin' (Kb 0) (startV i j) := by
  unfold startV Fin'
  split
  · exact .inl rfl
  · exact .inr (by decide)
theorem drf_fin (n m : Nat) (l : List Int) (hm : m = (n + 1) * (n + 1)) (hr : RightL m l) : FinM n (Kb 0) (drf n m l) := by
  intro i j hi hj
  rw [drf_at n m l hm i j hi hj]
  have h1 := startV_fin i j
  have h2 := hr (i * (n + 1) + j) (by rw [hm]; exact pos_lt hi hj)
  have ho := opn_val
  have hk : Kb 0 = 1073741824 := rfl
  unfold tgV Fin' at *
  rw [hk] at h1 ⊢
  split
  · exact h1
  · omega
theorem drf_diag (n m : Nat) (l : List Int) (hm : m = (n + 1) * (n + 1)) (hr : RightL m l) (i : Nat) (hi : i ≤ n) : drf n m l i i ≤ 1 := by
  rw [drf_at n m l hm i i hi hi]
  have : startV i i = 1 := by unfold startV; rw [if_neg (by omega)]
  rw [this]
  unfold tgV
  split <;> omega
theorem drf_keeps (n m : Nat) (l : List Int) (v : Nat → Int) (g : Int) (hm : m = (n + 1) * (n + 1)) (hr : RightL m l) (hg : 1 ≤ g) (v0 : v 0 = 0) (vp : ∀ i, 0 ≤ v i) : kB n l v g = true ↔ keepsM n v g (drf n m l) := by
  rw [kB_iff]
  unfold keepsM
  constructor
  · intro h i j hi hj
    rw [drf_at n m l hm i j hi hj, tgV_holds hg ((startV_fin i j).mono (by decide)) (hr _ (by rw [hm]; exact pos_lt hi hj))]
    exact ⟨start_holds (n := n) hg v0 vp i j, h i j hi hj⟩
  · intro h i j hi hj
    have := h i j hi hj
    rw [drf_at n m l hm i j hi hj, tgV_holds hg ((startV_fin i j).mono (by decide)) (hr _ (by rw [hm]; exact pos_lt hi hj))] at this
    exact this.2
theorem narAll_at {n : Nat} {p : Mat} {m : Nat} (h : narAll n p m = true) (k : Nat) (hk : k < m) : narOk (flat n p k) = true := by
  induction m with
  | zero => omega
  | succ m ih =>
    simp only [narAll, Bool.and_eq_true] at h
    by_cases e : k = m
    · subst e; exact h.2
    · exact ih h.1 (by omega)
theorem flat_at (n : Nat) (p : Mat) (i j : Nat) (hj : j ≤ n) : flat n p (i * (n + 1) + j) = p i j := by
  unfold flat
  rw [Nat.add_comm, Nat.add_mul_div_right _ _ (by omega), Nat.div_eq_of_lt (by omega), Nat.zero_add, Nat.add_mul_mod_self_right, Nat.mod_eq_of_lt (by omega)]
theorem narB_holds {q x g : Int} (h : narOk q = true) (hg : 1 ≤ g) : holdsF (narB q) x g = true ↔ holdsW q x g := by
  unfold narOk at h
  unfold narB
  by_cases e : q = opn
  · rw [if_pos e, hB_inf]
    exact ⟨fun _ => .inl e, fun _ => rfl⟩
  · have h' : ¬ (q < -536870912 ∨ 536870913 < q) := by simpa [e] using h
    rw [if_neg e, if_neg h']
    exact hB_iff (by omega) hg
theorem cells_at (n m : Nat) (p : Mat) (hm : m = (n + 1) * (n + 1)) (i j : Nat) (hi : i ≤ n) (hj : j ≤ n) : (listOf (cellsUpto n p m) m).getD (i * (n + 1) + j) 0 = narB (p i j) := by
  have lt : i * (n + 1) + j < m := by rw [hm]; exact pos_lt hi hj
  rw [listOf_get _ _ _ lt]
  unfold cellsUpto
  rw [if_pos lt, flat_at n p i j hj]
theorem closed_keeps (n m : Nat) (p : Mat) (v : Nat → Int) (g : Int) (hm : m = (n + 1) * (n + 1)) (hg : 1 ≤ g) (hn : narAll n p m = true) : kB n (listOf (cellsUpto n p m) m) v g = true ↔ keepsM n v g p := by
  rw [kB_iff]
  unfold keepsM
  have ok : ∀ i j, i ≤ n → j ≤ n → narOk (p i j) = true := fun i j hi hj => by
    have := narAll_at hn (i * (n + 1) + j) (by rw [hm]; exact pos_lt hi hj)
    rw [flat_at n p i j hj] at this
    exact this
  constructor
  · intro h i j hi hj
    have := h i j hi hj
    rw [cells_at n m p hm i j hi hj, narB_holds (ok i j hi hj) hg] at this
    exact this
  · intro h i j hi hj
    rw [cells_at n m p hm i j hi hj, narB_holds (ok i j hi hj) hg]
    exact h i j hi hj
theorem close_one' {n : Nat} {r p : Mat} (h : ∀ i, i ≤ n → r i i ≤ 1) (e : closeR n r = some p) : One n p := by
  have e' := e
  rw [close_both h] at e'
  unfold closeR at e
  cases d : diagOk n r (n + 1)
  · rw [d] at e
    cases e
  · have o : One n r := fun i hi => by
      have := (diagOk_iff _ _ _).1 d i (by omega)
      have := h i hi
      omega
    exact (rounds_both o (n + 1) (Nat.le_refl _)).2 p e'
/-- A valuation keeps the cells just if it keeps the closed ones, and the zone is not empty. -/
theorem points_law (n m : Nat) (l : List Int) (c : Row) (v : Nat → Int) (g : Int) (hn : n ≤ 8) (hm : m = (n + 1) * (n + 1)) (hr : RightL m l) (hg : 1 ≤ g) (v0 : v 0 = 0) (vp : ∀ i, 0 ≤ v i) (hz : zoneR n (drf n m l) = some c) :
    kB n l v g = (kB n (listOf c m) v g && !decide (c 0 < 1)) := by
  have ck := close_keep (v := v) hg hn (drf_fin n m l hm hr) (drf_diag n m l hm hr)
  have mp : 0 < m := by rw [hm]; exact Nat.mul_pos (by omega) (by omega)
  unfold zoneR at hz
  rw [← hm] at hz
  cases e : closeR n (drf n m l) with
  | none =>
    rw [e] at hz ck
    cases hz
    have : kB n l v g = false := by
      cases q : kB n l v g
      · rfl
      · obtain ⟨p, h, _⟩ := ck.1 ((drf_keeps n m l v g hm hr hg v0 vp).1 q)
        cases h
    rw [this]
    simp
  | some p =>
    rw [e] at hz ck
    have hz : (if narAll n p m = true then some (cellsUpto n p m) else none) = some c := hz
    split at hz
    · rename_i hna
      cases hz
      have o := close_one' (drf_diag n m l hm hr) e 0 (by omega)
      have c0 : cellsUpto n p m 0 = 1 := by
        unfold cellsUpto flat
        rw [if_pos mp, Nat.zero_div, Nat.zero_mod, o]
        decide
      rw [c0]
      have : (!decide ((1 : Int) < 1)) = true := by decide
      rw [this, Bool.and_true, Bool.eq_iff_iff, closed_keeps n m p v g hm hg hna, drf_keeps n m l v g hm hr hg v0 vp, ck]
      constructor
      · rintro ⟨p', h, k⟩
        cases h
        exact k
      · intro k
        exact ⟨p, rfl, k⟩
    · cases hz
/-- The zone of closed cells is that zone. -/
theorem of_closed (n m : Nat) (l : List Int) (c : Row) (hn : n ≤ 8) (hm : m = (n + 1) * (n + 1)) (hr : RightL m l) (hz : zoneR n (drf n m l) = some c) : zoneR n (drf n m (listOf c m)) = some c := by
  have mp : 0 < m := by rw [hm]; exact Nat.mul_pos (by omega) (by omega)
  have ho := opn_val
  unfold zoneR at hz
  rw [← hm] at hz
  cases e : closeR n (drf n m l) with
  | none =>
    rw [e] at hz
    cases hz
    have hd : diagOk n (drf n m (listOf (fun _ => 0) m)) (n + 1) = false := by
      refine diagOk_false (c := 1) (n + 1) (by omega) ?_
      have : drf n m (listOf (fun _ => 0) m) 0 0 = 0 := by
        rw [drf_at n m _ hm 0 0 (by omega) (by omega), listOf_get _ _ _ (by omega)]
        decide
      simp [diagOk, this]
    unfold zoneR closeR
    rw [hd]
    rfl
  | some p =>
    rw [e] at hz
    have hz : (if narAll n p m = true then some (cellsUpto n p m) else none) = some c := hz
    split at hz
    · rename_i hna
      cases hz
      have R := close_rounds hn (drf_fin n m l hm hr) (drf_diag n m l hm hr) e
      have kb : Kb (n + 1) ≤ 144115188075855872 := (Kb_bd (n + 1) (by omega)).2
      have same : drf n m (listOf (cellsUpto n p m) m) = p := by
        funext i j
        by_cases q : i ≤ n ∧ j ≤ n
        · obtain ⟨hi, hj⟩ := q
          rw [drf_at n m _ hm i j hi hj, cells_at n m p hm i j hi hj]
          have le := R.le i j hi hj
          rw [drf_at n m l hm i j hi hj] at le
          have le2 : tgV (startV i j) (l.getD (i * (n + 1) + j) 0) ≤ startV i j := by unfold tgV; split <;> omega
          have fp := (fin_mono R.fin kb) i j hi hj
          have ok := narAll_at hna (i * (n + 1) + j) (by rw [hm]; exact pos_lt hi hj)
          rw [flat_at n p i j hj] at ok
          have sv : startV i j = opn ∨ startV i j = 1 := by unfold startV; split; exact .inl rfl; exact .inr rfl
          unfold Fin' at fp
          by_cases eo : p i j = opn
          · have : narB (p i j) = 2147483647 := by unfold narB; rw [if_pos eo]
            rw [this]
            unfold tgV
            rw [if_pos rfl]
            omega
          · have h' : ¬ (p i j < -536870912 ∨ 536870913 < p i j) := by unfold narOk at ok; simpa [eo] using ok
            have : narB (p i j) = p i j := by unfold narB; rw [if_neg eo, if_neg h']
            rw [this]
            unfold tgV
            rw [if_neg (by omega)]
            omega
        · rw [drf_out n m _ hm i j q, R.out i j q, drf_out n m l hm i j q]
      rw [same]
      unfold zoneR
      rw [close_closed hn (fin_mono R.fin kb) R.one R.tri, ← hm]
      show (if narAll n p m = true then some (cellsUpto n p m) else none) = _
      rw [if_pos hna]
    · cases hz
end Go.Proofs.YtdkolgndebkloaaGreatDoor

/-
  A closed form with one bound more: it is not empty, if the bound does not go against the opposite one.
-/
namespace Go.Proofs.YtdkolgndebkloaaGreatDoor
open Go.RowKit
set_option linter.unusedVariables false
set_option maxRecDepth 100000
theorem rounds_above {n : Nat} {r q : Mat} (hn : n ≤ 8) (hf : FinM n (Kb 0) r) (ho : One n r) (fq : FinM n 144115188075855872 q) (oq : One n q) (tq : Tri n (n + 1) q) (le : ∀ i j, i ≤ n → j ≤ n → q i j ≤ r i j) (c : Nat) (hc : c ≤ n + 1) : ∃ p, clAll n c r = some p ∧ ∀ i j, i ≤ n → j ≤ n → q i j ≤ p i j := by
  induction c with
  | zero => exact ⟨r, rfl, le⟩
  | succ c ih =>
    obtain ⟨p, ep, lp⟩ := ih (by omega)
    have R := rounds_of hn hf ho c (by omega) p ep
    have bd := Kb_bd c (by omega)
    have hs := still_of (k := c) (by omega) R.fin R.one (by omega)
    have ff : ∀ i j, i ≤ n → j ≤ n → F (p i j) := fun i j hi hj => (R.fin i j hi hj).mono (by omega)
    have fg : ∀ i j, i ≤ n → j ≤ n → F (q i j) := fun i j hi hj => (fq i j hi hj).mono (by decide)
    have key : ∀ i j, i ≤ n → j ≤ n → q i j ≤ pl (p i c) (p c j) := fun i j hi hj => Int.le_trans (tq c (by omega) i j hi hj) (pl_mono (fg i c hi (by omega)) (fg c j (by omega) hj) (ff i c hi (by omega)) (ff c j (by omega) hj) (lp i c hi (by omega)) (lp c j (by omega) hj))
    rcases all_mid hs R.one (by omega) (n + 1) (Nat.le_refl _) with e2 | ⟨e2, i, hi, h⟩
    · refine ⟨midR n c p (n + 1) 0, by simp [clAll, ep, e2], fun i j hi hj => ?_⟩
      rw [mid_all]
      unfold tgt
      rw [if_pos ⟨hi, hj⟩, dplus_pl (R.fin i c hi (by omega)) (R.fin c j (by omega) hj) (by omega)]
      have := key i j hi hj
      have := lp i j hi hj
      omega
    · exfalso
      rw [dplus_pl (R.fin i c hi (by omega)) (R.fin c i (by omega) hi) (by omega)] at h
      have := key i i hi hi
      rw [oq i hi] at this
      omega
/-- With one bound more. -/
def withB (p : Mat) (i j : Nat) (o : Int) : Mat := fun a b => min (p a b) (pl (pl (p a j) o) (p i b))
theorem pl_fin' {a b K L : Int} (ha : Fin' K a) (hb : Fin' L b) (k0 : 0 ≤ K) (l0 : 0 ≤ L) : Fin' (K + L + 1) (pl a b) := by
  have := pl_cases a b
  unfold Fin' at *
  omega
theorem pl_mono1 {a b c : Int} (ha : F a) (hb : F b) (hc : F c) (h : a ≤ b) : pl a c ≤ pl b c := pl_mono ha hc hb hc h (Int.le_refl _)
theorem pl_mono2 {a b c : Int} (ha : F a) (hb : F b) (hc : F c) (h : a ≤ b) : pl c a ≤ pl c b := pl_mono hc ha hc hb (Int.le_refl _) h
theorem one_pl {a : Int} (h : F a) : pl 1 a = a := by rw [pl_comm]; exact pl_one h
theorem fP {n : Nat} {p : Mat} (hf : FinM n 1073741824 p) (a b : Nat) (ha : a ≤ n) (hb : b ≤ n) : Fin' 1073741824 (p a b) := hf a b ha hb
theorem withB_one {n : Nat} {p : Mat} {i j : Nat} {o : Int} (hf : FinM n 1073741824 p) (ho : One n p) (ht : Tri n (n + 1) p) (hi : i ≤ n) (hj : j ≤ n) (fo : Fin' 1073741824 o) (h : 1 ≤ pl (p i j) o) : One n (withB p i j o) := by
  intro a ha
  unfold withB
  have f1 := fP hf a j ha hj
  have f2 := fP hf i a hi ha
  have f3 := fP hf i j hi hj
  have F1 : F (p a j) := f1.mono (by decide)
  have F2 : F (p i a) := f2.mono (by decide)
  have F3 : F (p i j) := f3.mono (by decide)
  have Fo : F o := fo.mono (by decide)
  have t := ht a (by omega) i j hi hj
  have e : pl (pl (p a j) o) (p i a) = pl (pl (p i a) (p a j)) o := by
    rw [pl_comm (pl (p a j) o) (p i a), pl_assoc F2 F1 Fo]
  rw [e, ho a ha]
  have F4 : F (pl (p i a) (p a j)) := (pl_fin' f2 f1 (by decide) (by decide)).mono (by decide)
  have := pl_mono1 F3 F4 Fo t
  omega
theorem withB_fin {n : Nat} {p : Mat} {i j : Nat} {o : Int} (hf : FinM n 1073741824 p) (hi : i ≤ n) (hj : j ≤ n) (fo : Fin' 1073741824 o) : FinM n 144115188075855872 (withB p i j o) := by
  intro a b ha hb
  unfold withB
  have f0 := (fP hf a b ha hb).mono (show (1073741824 : Int) ≤ 144115188075855872 by decide)
  have f1 := (pl_fin' (pl_fin' (fP hf a j ha hj) fo (by decide) (by decide)) (fP hf i b hi hb) (by decide) (by decide)).mono (show (1073741824 + 1073741824 + 1 + 1073741824 + 1 : Int) ≤ 144115188075855872 by decide)
  by_cases q : p a b ≤ pl (pl (p a j) o) (p i b)
  · rw [show min (p a b) (pl (pl (p a j) o) (p i b)) = p a b by omega]; exact f0
  · rw [show min (p a b) (pl (pl (p a j) o) (p i b)) = pl (pl (p a j) o) (p i b) by omega]; exact f1
theorem withB_tri {n : Nat} {p : Mat} {i j : Nat} {o : Int} (hf : FinM n 1073741824 p) (ho : One n p) (ht : Tri n (n + 1) p) (hi : i ≤ n) (hj : j ≤ n) (fo : Fin' 1073741824 o) (h : 1 ≤ pl (p i j) o) : Tri n (n + 1) (withB p i j o) := by
  intro c hc a b ha hb
  have cn : c ≤ n := by omega
  have ff : ∀ x y, x ≤ n → y ≤ n → F (p x y) := fun x y hx hy => (fP hf x y hx hy).mono (by decide)
  have Fo : F o := fo.mono (by decide)
  have fj : ∀ x, x ≤ n → Fin' 2147483649 (pl (p x j) o) := fun x hx => (pl_fin' (fP hf x j hx hj) fo (by decide) (by decide)).mono (by decide)
  have Fj : ∀ x, x ≤ n → F (pl (p x j) o) := fun x hx => (fj x hx).mono (by decide)
  have fk : ∀ x y, x ≤ n → y ≤ n → Fin' 3221225474 (pl (pl (p x j) o) (p i y)) := fun x y hx hy => (pl_fin' (fj x hx) (fP hf i y hi hy) (by decide) (by decide)).mono (by decide)
  have Fk : ∀ x y, x ≤ n → y ≤ n → F (pl (pl (p x j) o) (p i y)) := fun x y hx hy => (fk x y hx hy).mono (by decide)
  have fp : ∀ x y z u, x ≤ n → y ≤ n → z ≤ n → u ≤ n → Fin' 2147483649 (pl (p x y) (p z u)) := fun x y z u h1 h2 h3 h4 => (pl_fin' (fP hf x y h1 h2) (fP hf z u h3 h4) (by decide) (by decide)).mono (by decide)
  unfold withB
  have t1 := ht c hc a b ha hb
  have t2 := ht c hc a j ha hj
  have t3 := ht c hc i b hi hb
  have t4 := ht c hc i j hi hj
  by_cases q1 : p a c ≤ pl (pl (p a j) o) (p i c)
  · rw [show min (p a c) (pl (pl (p a j) o) (p i c)) = p a c by omega]
    by_cases q2 : p c b ≤ pl (pl (p c j) o) (p i b)
    · rw [show min (p c b) (pl (pl (p c j) o) (p i b)) = p c b by omega]
      omega
    · rw [show min (p c b) (pl (pl (p c j) o) (p i b)) = pl (pl (p c j) o) (p i b) by omega]
      have e : pl (p a c) (pl (pl (p c j) o) (p i b)) = pl (pl (pl (p a c) (p c j)) o) (p i b) := by
        rw [← pl_assoc (ff a c ha cn) (Fj c cn) (ff i b hi hb), ← pl_assoc (ff a c ha cn) (ff c j cn hj) Fo]
      rw [e]
      have m1 := pl_mono1 (ff a j ha hj) ((fp a c c j ha cn cn hj).mono (by decide)) Fo t2
      have m2 := pl_mono1 (Fj a ha) ((pl_fin' (fp a c c j ha cn cn hj) fo (by decide) (by decide)).mono (by decide)) (ff i b hi hb) m1
      omega
  · rw [show min (p a c) (pl (pl (p a j) o) (p i c)) = pl (pl (p a j) o) (p i c) by omega]
    by_cases q2 : p c b ≤ pl (pl (p c j) o) (p i b)
    · rw [show min (p c b) (pl (pl (p c j) o) (p i b)) = p c b by omega]
      rw [pl_assoc (Fj a ha) (ff i c hi cn) (ff c b cn hb)]
      have m1 := pl_mono2 (ff i b hi hb) ((fp i c c b hi cn cn hb).mono (by decide)) (Fj a ha) t3
      omega
    · rw [show min (p c b) (pl (pl (p c j) o) (p i b)) = pl (pl (p c j) o) (p i b) by omega]
      have e : pl (pl (pl (p a j) o) (p i c)) (pl (pl (p c j) o) (p i b)) = pl (pl (p a j) o) (pl (pl (pl (p i c) (p c j)) o) (p i b)) := by
        rw [pl_assoc (Fj a ha) (ff i c hi cn) (Fk c b cn hb), ← pl_assoc (ff i c hi cn) (Fj c cn) (ff i b hi hb), ← pl_assoc (ff i c hi cn) (ff c j cn hj) Fo]
      rw [e]
      have g1 : Fin' 2147483649 (pl (p i c) (p c j)) := fp i c c j hi cn cn hj
      have m1 := pl_mono1 (ff i j hi hj) (g1.mono (by decide)) Fo t4
      have g2 : Fin' 3221225474 (pl (pl (p i c) (p c j)) o) := (pl_fin' g1 fo (by decide) (by decide)).mono (by decide)
      have m2 : 1 ≤ pl (pl (p i c) (p c j)) o := by omega
      have m3 := pl_mono1 (a := 1) (.inr (by decide)) (g2.mono (by decide)) (ff i b hi hb) m2
      rw [one_pl (ff i b hi hb)] at m3
      have g3 : Fin' 4294967299 (pl (pl (pl (p i c) (p c j)) o) (p i b)) := (pl_fin' g2 (fP hf i b hi hb) (by decide) (by decide)).mono (by decide)
      have m4 := pl_mono2 (ff i b hi hb) (g3.mono (by decide)) (Fj a ha) m3
      omega
/-- A bound more that does not go against the opposite one leaves a valuation. -/
theorem close_withB {n : Nat} {p r : Mat} {i j : Nat} {o : Int} (hn : n ≤ 8) (hf : FinM n 1073741824 p) (ho : One n p) (ht : Tri n (n + 1) p) (hi : i ≤ n) (hj : j ≤ n) (fo : Fin' 1073741824 o) (h : 1 ≤ pl (p i j) o)
    (fr : FinM n (Kb 0) r) (or : One n r) (hr : ∀ a b, a ≤ n → b ≤ n → r a b = if a = j ∧ b = i then min (p a b) o else p a b) : ∃ q, closeR n r = some q := by
  have le : ∀ a b, a ≤ n → b ≤ n → withB p i j o a b ≤ r a b := fun a b ha hb => by
    rw [hr a b ha hb]
    unfold withB
    split
    · rename_i e
      obtain ⟨rfl, rfl⟩ := e
      rw [ho a hj, ho b hi, one_pl (fo.mono (by decide)), pl_one (fo.mono (by decide))]
      omega
    · omega
  obtain ⟨q, e, _⟩ := rounds_above hn fr or (withB_fin hf hi hj fo) (withB_one hf ho ht hi hj fo h) (withB_tri hf ho ht hi hj fo h) le (n + 1) (Nat.le_refl _)
  refine ⟨q, ?_⟩
  unfold closeR
  rw [or.ok]
  exact e
end Go.Proofs.YtdkolgndebkloaaGreatDoor
