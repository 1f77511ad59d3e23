/-
  Closing, in numbers: what one round does, that sums of bounds are monotone and associative, that what is closed keeps the inequality of triangles, and that it holds of the same valuations.
-/
import Derived.Test.YtjanibholjimkaaQ11
namespace Go.Proofs.Ytjanibholjimkaa
open Go.RowKit
set_option linter.unusedVariables false
set_option maxRecDepth 100000
/-- The sum of two bounds, without going round. -/
def pl (a b : Int) : Int := if a = opn ∨ b = opn then opn else a + b - (if a % 2 = 1 ∨ b % 2 = 1 then 1 else 0)
/-- A wide bound: none, or one of this size. -/
def Fin' (K x : Int) : Prop := x = opn ∨ (-K ≤ x ∧ x ≤ K)
theorem dplus_pl {a b K : Int} (ha : Fin' K a) (hb : Fin' K b) (hK : K ≤ 1152921504606846976) : dplus a b = pl a b := by
  unfold dplus pl
  split
  · rfl
  · rename_i h
    unfold Fin' at ha hb
    rw [i64_and1, i64_or_odd]
    unfold wrap64
    split <;> omega
theorem pl_fin {a b K : Int} (ha : Fin' K a) (hb : Fin' K b) : Fin' (2 * K + 1) (pl a b) := by
  unfold Fin' at *
  unfold pl
  split
  · exact .inl rfl
  · right
    split <;> omega
theorem Fin'.mono {K L x : Int} (h : Fin' K x) (hK : K ≤ L) : Fin' L x := by
  unfold Fin' at *
  omega
abbrev F (x : Int) : Prop := Fin' 1152921504606846976 x
theorem opn_val : opn = 4611686018427387904 := rfl
theorem pl_cases (a b : Int) : ((a = opn ∨ b = opn) ∧ pl a b = opn) ∨ (¬ a = opn ∧ ¬ b = opn ∧ ((pl a b = a + b - 1 ∧ (a % 2 = 1 ∨ b % 2 = 1)) ∨ (pl a b = a + b ∧ a % 2 = 0 ∧ b % 2 = 0))) := by
  unfold pl
  by_cases h : a = opn ∨ b = opn
  · rw [if_pos h]
    exact .inl ⟨h, rfl⟩
  · rw [if_neg h]
    refine .inr ⟨by omega, by omega, ?_⟩
    by_cases q : a % 2 = 1 ∨ b % 2 = 1
    · rw [if_pos q]
      exact .inl ⟨rfl, q⟩
    · rw [if_neg q]
      exact .inr ⟨by omega, by omega, by omega⟩
theorem pl_comm (a b : Int) : pl a b = pl b a := by
  have h1 := pl_cases a b
  have h2 := pl_cases b a
  omega
theorem pl_mono {a b c d : Int} (ha : F a) (hb : F b) (hc : F c) (hd : F d) (h1 : a ≤ c) (h2 : b ≤ d) : pl a b ≤ pl c d := by
  unfold F Fin' at *
  have h3 := pl_cases a b
  have h4 := pl_cases c d
  have ho := opn_val
  generalize pl a b = x at *
  generalize pl c d = y at *
  generalize opn = o at *
  omega
set_option maxHeartbeats 2000000 in
theorem pl_assoc {a b c : Int} (ha : F a) (hb : F b) (hc : F c) : pl (pl a b) c = pl a (pl b c) := by
  unfold F Fin' at *
  have h1 := pl_cases a b
  have h2 := pl_cases b c
  have h3 := pl_cases (pl a b) c
  have h4 := pl_cases a (pl b c)
  have ho := opn_val
  generalize pl (pl a b) c = u at *
  generalize pl a (pl b c) = v at *
  generalize pl a b = x at *
  generalize pl b c = y at *
  generalize opn = o at *
  rcases h1 with ⟨h1, e1⟩ | ⟨p1, p2, ⟨e1, q1⟩ | ⟨e1, q1⟩⟩ <;> rcases h2 with ⟨h2, e2⟩ | ⟨r1, r2, ⟨e2, q2⟩ | ⟨e2, q2⟩⟩ <;> rcases h3 with ⟨h3, e3⟩ | ⟨s1, s2, ⟨e3, q3⟩ | ⟨e3, q3⟩⟩ <;> rcases h4 with ⟨h4, e4⟩ | ⟨t1, t2, ⟨e4, q4⟩ | ⟨e4, q4⟩⟩ <;> omega
theorem pl_one {a : Int} (ha : F a) : pl a 1 = a := by
  unfold F Fin' at *
  have h1 := pl_cases a 1
  have ho := opn_val
  omega
/-! ### One round -/
def tgt (n k : Nat) (r : Mat) : Mat := fun i j => if i ≤ n ∧ j ≤ n then min (r i j) (dplus (r i k) (r k j)) else r i j
def midR (n k : Nat) (r : Mat) (I J : Nat) : Mat := fun a c => if (a < I ∧ c ≤ n) ∨ (a = I ∧ c < J) then min (r a c) (dplus (r a k) (r k c)) else r a c
theorem midR_row (n k : Nat) (r : Mat) (I : Nat) : midR n k r I (n + 1) = midR n k r (I + 1) 0 := by
  funext a c
  unfold midR
  congr 1
  apply propext
  omega
/-- The row and the column of k are as they were. -/
def Still (n k : Nat) (r : Mat) : Prop := (∀ i, i ≤ n → r i k ≤ dplus (r i k) (r k k)) ∧ (∀ j, j ≤ n → r k j ≤ dplus (r k k) (r k j))
theorem mid_col {n k : Nat} {r : Mat} (hs : Still n k r) (I J i : Nat) (hi : i ≤ n) (hk : k ≤ n) : midR n k r I J i k = r i k := by
  unfold midR
  split
  · have := hs.1 i hi
    omega
  · rfl
theorem mid_row {n k : Nat} {r : Mat} (hs : Still n k r) (I J j : Nat) (hj : j ≤ n) : midR n k r I J k j = r k j := by
  unfold midR
  split
  · have := hs.2 j hj
    omega
  · rfl
theorem mid_here (n k : Nat) (r : Mat) (I J : Nat) : midR n k r I J I J = r I J := by
  unfold midR
  rw [if_neg (by omega)]
theorem mid_next_same {n k : Nat} {r : Mat} {I J : Nat} (h : r I J ≤ dplus (r I k) (r k J)) : midR n k r I (J + 1) = midR n k r I J := by
  funext a c
  unfold midR
  by_cases e : a = I ∧ c = J
  · obtain ⟨rfl, rfl⟩ := e
    rw [if_pos (by omega), if_neg (by omega)]
    omega
  · congr 1
    apply propext
    omega
theorem mid_next_upd {n k : Nat} {r : Mat} {I J : Nat} (h : ¬ r I J ≤ dplus (r I k) (r k J)) : upd (midR n k r I J) I J (dplus (r I k) (r k J)) = midR n k r I (J + 1) := by
  funext a c
  unfold upd midR
  by_cases e : a = I ∧ c = J
  · obtain ⟨rfl, rfl⟩ := e
    rw [if_pos ⟨rfl, rfl⟩, if_pos (by omega)]
    omega
  · rw [if_neg e]
    congr 1
    apply propext
    omega
theorem row_mid {n k : Nat} {r : Mat} (hs : Still n k r) (ho : One n r) (hk : k ≤ n) (I : Nat) (hI : I ≤ n) (c : Nat) (hc : c ≤ n + 1) :
    (cbRow k I c (midR n k r I 0) = some (midR n k r I c)) ∨ (cbRow k I c (midR n k r I 0) = none ∧ dplus (r I k) (r k I) < 1) := by
  induction c with
  | zero => exact .inl rfl
  | succ c ih =>
    rcases ih (by omega) with e | ⟨e, h⟩
    · have st : cbRow k I (c + 1) (midR n k r I 0) = cbStep k I c (midR n k r I c) := by simp [cbRow, e]
      rw [st]
      unfold cbStep
      rw [mid_here, mid_col hs I c I hI hk, mid_row hs I c c (by omega)]
      by_cases q : r I c ≤ dplus (r I k) (r k c)
      · rw [if_pos q]
        exact .inl (by rw [mid_next_same q])
      · rw [if_neg q]
        by_cases q2 : I = c
        · subst q2
          rw [if_pos rfl]
          have := ho I hI
          exact .inr ⟨rfl, by omega⟩
        · rw [if_neg q2, mid_next_upd q]
          exact .inl rfl
    · exact .inr ⟨by simp [cbRow, e], h⟩
theorem all_mid {n k : Nat} {r : Mat} (hs : Still n k r) (ho : One n r) (hk : k ≤ n) (c : Nat) (hc : c ≤ n + 1) :
    (cbAll k n c r = some (midR n k r c 0)) ∨ (cbAll k n c r = none ∧ ∃ i, i ≤ n ∧ dplus (r i k) (r k i) < 1) := by
  induction c with
  | zero =>
    refine .inl ?_
    show some r = _
    congr 1
    funext a c
    unfold midR
    rw [if_neg (by omega)]
  | succ c ih =>
    rcases ih (by omega) with e | ⟨e, h⟩
    · have st : cbAll k n (c + 1) r = cbRow k c (n + 1) (midR n k r c 0) := by simp [cbAll, e]
      rw [st]
      rcases row_mid hs ho hk c (by omega) (n + 1) (Nat.le_refl _) with e2 | ⟨e2, h2⟩
      · exact .inl (by rw [e2, midR_row])
      · exact .inr ⟨e2, c, by omega, h2⟩
    · exact .inr ⟨by simp [cbAll, e], h⟩
theorem mid_all (n k : Nat) (r : Mat) : midR n k r (n + 1) 0 = tgt n k r := by
  funext a c
  unfold midR tgt
  congr 1
  apply propext
  omega
/-- All entries are of this size. -/
def FinM (n : Nat) (K : Int) (r : Mat) : Prop := ∀ i j, i ≤ n → j ≤ n → Fin' K (r i j)
theorem still_of {n k : Nat} {r : Mat} {K : Int} (hK : K ≤ 1152921504606846976) (hf : FinM n K r) (ho : One n r) (hk : k ≤ n) : Still n k r := by
  refine ⟨fun i hi => ?_, fun j hj => ?_⟩
  · rw [dplus_pl (hf i k hi hk) (hf k k hk hk) hK, ho k hk, pl_one ((hf i k hi hk).mono hK)]
    omega
  · rw [dplus_pl (hf k k hk hk) (hf k j hk hj) hK, ho k hk, pl_comm, pl_one ((hf k j hk hj).mono hK)]
    omega
theorem fin_tgt {n k : Nat} {r : Mat} {K : Int} (hK : K ≤ 1152921504606846976) (h0 : 0 ≤ K) (hf : FinM n K r) (hk : k ≤ n) : FinM n (2 * K + 1) (tgt n k r) := by
  intro i j hi hj
  unfold tgt
  rw [if_pos ⟨hi, hj⟩, dplus_pl (hf i k hi hk) (hf k j hk hj) hK]
  have a := (hf i j hi hj).mono (show K ≤ 2 * K + 1 by omega)
  have b := pl_fin (hf i k hi hk) (hf k j hk hj)
  by_cases q : r i j ≤ pl (r i k) (r k j)
  · rw [show min (r i j) (pl (r i k) (r k j)) = r i j by omega]; exact a
  · rw [show min (r i j) (pl (r i k) (r k j)) = pl (r i k) (r k j) by omega]; exact b
/-! ### The inequality of triangles -/
def Tri (n K : Nat) (r : Mat) : Prop := ∀ k, k < K → ∀ i j, i ≤ n → j ≤ n → r i j ≤ pl (r i k) (r k j)
theorem tri_step {n K : Nat} {r : Mat} (hf : FinM n 144115188075855872 r) (ho : One n r) (hK : K ≤ n) (h1 : ∀ i, i ≤ n → 1 ≤ pl (r i K) (r K i)) (h : Tri n K r) : Tri n (K + 1) (tgt n K r) := by
  have ff : ∀ i j, i ≤ n → j ≤ n → F (r i j) := fun i j hi hj => (hf i j hi hj).mono (by decide)
  have fp : ∀ i j k l, i ≤ n → j ≤ n → k ≤ n → l ≤ n → F (pl (r i j) (r k l)) := fun i j k l hi hj hk hl => (pl_fin (hf i j hi hj) (hf k l hk hl)).mono (by decide)
  have T : ∀ i j, i ≤ n → j ≤ n → tgt n K r i j = min (r i j) (pl (r i K) (r K j)) := fun i j hi hj => by
    unfold tgt
    rw [if_pos ⟨hi, hj⟩, dplus_pl (hf i K hi hK) (hf K j hK hj) (by decide)]
  intro k hk i j hi hj
  have kn : k ≤ n := by omega
  rw [T i j hi hj, T i k hi kn, T k j kn hj]
  by_cases e : k = K
  · subst e
    have a : pl (r i k) (r k k) = r i k := by rw [ho k hK]; exact pl_one (ff i k hi hK)
    have b : pl (r k k) (r k j) = r k j := by rw [ho k hK, pl_comm]; exact pl_one (ff k j hK hj)
    rw [a, b]
    have : min (r i k) (r i k) = r i k := by omega
    rw [this]
    have : min (r k j) (r k j) = r k j := by omega
    rw [this]
    omega
  · have lt : k < K := by omega
    have g1 := h k lt i j hi hj
    have g2 := h k lt K j hK hj
    have g3 := h k lt i K hi hK
    have g4 := h k lt K K hK hK
    rw [ho K hK] at g4
    by_cases q1 : r i k ≤ pl (r i K) (r K k)
    · rw [show min (r i k) (pl (r i K) (r K k)) = r i k by omega]
      by_cases q2 : r k j ≤ pl (r k K) (r K j)
      · rw [show min (r k j) (pl (r k K) (r K j)) = r k j by omega]
        omega
      · rw [show min (r k j) (pl (r k K) (r K j)) = pl (r k K) (r K j) by omega]
        rw [← pl_assoc (ff i k hi kn) (ff k K kn hK) (ff K j hK hj)]
        have := pl_mono (ff i K hi hK) (ff K j hK hj) (fp i k k K hi kn kn hK) (ff K j hK hj) g3 (Int.le_refl _)
        omega
    · rw [show min (r i k) (pl (r i K) (r K k)) = pl (r i K) (r K k) by omega]
      by_cases q2 : r k j ≤ pl (r k K) (r K j)
      · rw [show min (r k j) (pl (r k K) (r K j)) = r k j by omega]
        rw [pl_assoc (ff i K hi hK) (ff K k hK kn) (ff k j kn hj)]
        have := pl_mono (ff i K hi hK) (ff K j hK hj) (ff i K hi hK) (fp K k k j hK kn kn hj) (Int.le_refl _) g2
        omega
      · rw [show min (r k j) (pl (r k K) (r K j)) = pl (r k K) (r K j) by omega]
        rw [pl_assoc (ff i K hi hK) (ff K k hK kn) (fp k K K j kn hK hK hj), ← pl_assoc (ff K k hK kn) (ff k K kn hK) (ff K j hK hj)]
        have a := pl_mono (a := 1) (b := r K j) (.inr (by decide)) (ff K j hK hj) (fp K k k K hK kn kn hK) (ff K j hK hj) g4 (Int.le_refl _)
        rw [pl_comm, pl_one (ff K j hK hj)] at a
        have x : F (pl (pl (r K k) (r k K)) (r K j)) := (pl_fin ((pl_fin (hf K k hK kn) (hf k K kn hK))) ((hf K j hK hj).mono (show (144115188075855872 : Int) ≤ 2 * 144115188075855872 + 1 by decide))).mono (by decide)
        have b := pl_mono (ff i K hi hK) (ff K j hK hj) (ff i K hi hK) x (Int.le_refl _) a
        omega
end Go.Proofs.Ytjanibholjimkaa
