/-
  Closing, in numbers: what one round does, that sums of bounds are monotone and associative, that what is closed keeps the inequality of triangles, and that it holds of the same valuations.
-/
import Derived.Test.YtnfkmpickmonoaaGreatQ7
import Derived.Test.YtnfkmpickmonoaaGreatQ8
namespace Go.Proofs.YtnfkmpickmonoaaGreat
open Go.RowKit
set_option linter.unusedVariables false
set_option maxRecDepth 100000
/-- The sum of two bounds, without going round. -/
def pl (a b : Int) : Int := if a = opn ∨ b = opn then opn else a + b - (if a % 2 = 1 ∨ b % 2 = 1 then 1 else 0)
/-- A wide bound: none, or one of this size. -/
def Fin' (K x : Int) : Prop := x = opn ∨ (-K ≤ x ∧ x ≤ K)
theorem dplus_pl {a b K : Int} (ha : Fin' K a) (hb : Fin' K b) (hK : K ≤ 1152921504606846976) : dplus a b = pl a b := by
  unfold dplus pl
  split
  · rfl
  · rename_i h
    unfold Fin' at ha hb
    rw [i64_and1, i64_or_odd]
    unfold wrap64
    split <;> omega
theorem pl_fin {a b K : Int} (ha : Fin' K a) (hb : Fin' K b) : Fin' (2 * K + 1) (pl a b) := by
  unfold Fin' at *
  unfold pl
  split
  · exact .inl rfl
  · right
    split <;> omega
theorem Fin'.mono {K L x : Int} (h : Fin' K x) (hK : K ≤ L) : Fin' L x := by
  unfold Fin' at *
  omega
abbrev F (x : Int) : Prop := Fin' 1152921504606846976 x
theorem opn_val : opn = 4611686018427387904 := rfl
theorem pl_cases (a b : Int) : ((a = opn ∨ b = opn) ∧ pl a b = opn) ∨ (¬ a = opn ∧ ¬ b = opn ∧ ((pl a b = a + b - 1 ∧ (a % 2 = 1 ∨ b % 2 = 1)) ∨ (pl a b = a + b ∧ a % 2 = 0 ∧ b % 2 = 0))) := by
  unfold pl
  by_cases h : a = opn ∨ b = opn
  · rw [if_pos h]
    exact .inl ⟨h, rfl⟩
  · rw [if_neg h]
    refine .inr ⟨by omega, by omega, ?_⟩
    by_cases q : a % 2 = 1 ∨ b % 2 = 1
    · rw [if_pos q]
      exact .inl ⟨rfl, q⟩
    · rw [if_neg q]
      exact .inr ⟨by omega, by omega, by omega⟩
theorem pl_comm (a b : Int) : pl a b = pl b a := by
  have h1 := pl_cases a b
  have h2 := pl_cases b a
  omega
theorem pl_mono {a b c d : Int} (ha : F a) (hb : F b) (hc : F c) (hd : F d) (h1 : a ≤ c) (h2 : b ≤ d) : pl a b ≤ pl c d := by
  unfold F Fin' at *
  have h3 := pl_cases a b
  have h4 := pl_cases c d
  have ho := opn_val
  generalize pl a b = x at *
  generalize pl c d = y at *
  generalize opn = o at *
  omega
set_option maxHeartbeats 2000000 in
theorem pl_assoc {a b c : Int} (ha : F a) (hb : F b) (hc : F c) : pl (pl a b) c = pl a (pl b c) := by
  unfold F Fin' at *
  have h1 := pl_cases a b
  have h2 := pl_cases b c
  have h3 := pl_cases (pl a b) c
  have h4 := pl_cases a (pl b c)
  have ho := opn_val
  generalize pl (pl a b) c = u at *
  generalize pl a (pl b c) = v at *
  generalize pl a b = x at *
  generalize pl b c = y at *
  generalize opn = o at *
  rcases h1 with ⟨h1, e1⟩ | ⟨p1, p2, ⟨e1, q1⟩ | ⟨e1, q1⟩⟩ <;> rcases h2 with ⟨h2, e2⟩ | ⟨r1, r2, ⟨e2, q2⟩ | ⟨e2, q2⟩⟩ <;> rcases h3 with ⟨h3, e3⟩ | ⟨s1, s2, ⟨e3, q3⟩ | ⟨e3, q3⟩⟩ <;> rcases h4 with ⟨h4, e4⟩ | ⟨t1, t2, ⟨e4, q4⟩ | ⟨e4, q4⟩⟩ <;> omega
theorem pl_one {a : Int} (ha : F a) : pl a 1 = a := by
  unfold F Fin' at *
  have h1 := pl_cases a 1
  have ho := opn_val
  omega
/-! ### One round -/
def tgt (n k : Nat) (r : Mat) : Mat := fun i j => if i ≤ n ∧ j ≤ n then min (r i j) (dplus (r i k) (r k j)) else r i j
def midR (n k : Nat) (r : Mat) (I J : Nat) : Mat := fun a c => if (a < I ∧ c ≤ n) ∨ (a = I ∧ c < J) then min (r a c) (dplus (r a k) (r k c)) else r a c
theorem midR_row (n k : Nat) (r : Mat) (I : Nat) : midR n k r I (n + 1) = midR n k r (I + 1) 0 := by
  funext a c
  unfold midR
  congr 1
  apply propext
  omega
/-- The row and the column of k are as they were. -/
def Still (n k : Nat) (r : Mat) : Prop := (∀ i, i ≤ n → r i k ≤ dplus (r i k) (r k k)) ∧ (∀ j, j ≤ n → r k j ≤ dplus (r k k) (r k j))
theorem mid_col {n k : Nat} {r : Mat} (hs : Still n k r) (I J i : Nat) (hi : i ≤ n) (hk : k ≤ n) : midR n k r I J i k = r i k := by
  unfold midR
  split
  · have := hs.1 i hi
    omega
  · rfl
theorem mid_row {n k : Nat} {r : Mat} (hs : Still n k r) (I J j : Nat) (hj : j ≤ n) : midR n k r I J k j = r k j := by
  unfold midR
  split
  · have := hs.2 j hj
    omega
  · rfl
theorem mid_here (n k : Nat) (r : Mat) (I J : Nat) : midR n k r I J I J = r I J := by
  unfold midR
  rw [if_neg (by omega)]
theorem mid_next_same {n k : Nat} {r : Mat} {I J : Nat} (h : r I J ≤ dplus (r I k) (r k J)) : midR n k r I (J + 1) = midR n k r I J := by
  funext a c
  unfold midR
  by_cases e : a = I ∧ c = J
  · obtain ⟨rfl, rfl⟩ := e
    rw [if_pos (by omega), if_neg (by omega)]
    omega
  · congr 1
    apply propext
    omega
theorem mid_next_upd {n k : Nat} {r : Mat} {I J : Nat} (h : ¬ r I J ≤ dplus (r I k) (r k J)) : upd (midR n k r I J) I J (dplus (r I k) (r k J)) = midR n k r I (J + 1) := by
  funext a c
  unfold upd midR
  by_cases e : a = I ∧ c = J
  · obtain ⟨rfl, rfl⟩ := e
    rw [if_pos ⟨rfl, rfl⟩, if_pos (by omega)]
    omega
  · rw [if_neg e]
    congr 1
    apply propext
    omega
theorem row_mid {n k : Nat} {r : Mat} (hs : Still n k r) (ho : One n r) (hk : k ≤ n) (I : Nat) (hI : I ≤ n) (c : Nat) (hc : c ≤ n + 1) :
    (cbRow k I c (midR n k r I 0) = some (midR n k r I c)) ∨ (cbRow k I c (midR n k r I 0) = none ∧ dplus (r I k) (r k I) < 1) := by
  induction c with
  | zero => exact .inl rfl
  | succ c ih =>
    rcases ih (by omega) with e | ⟨e, h⟩
    · have st : cbRow k I (c + 1) (midR n k r I 0) = cbStep k I c (midR n k r I c) := by simp [cbRow, e]
      rw [st]
      unfold cbStep
      rw [mid_here, mid_col hs I c I hI hk, mid_row hs I c c (by omega)]
      by_cases q : r I c ≤ dplus (r I k) (r k c)
      · rw [if_pos q]
        exact .inl (by rw [mid_next_same q])
      · rw [if_neg q]
        by_cases q2 : I = c
        · subst q2
          rw [if_pos rfl]
          have := ho I hI
          exact .inr ⟨rfl, by omega⟩
        · rw [if_neg q2, mid_next_upd q]
          exact .inl rfl
    · exact .inr ⟨by simp [cbRow, e], h⟩
theorem all_mid {n k : Nat} {r : Mat} (hs : Still n k r) (ho : One n r) (hk : k ≤ n) (c : Nat) (hc : c ≤ n + 1) :
    (cbAll k n c r = some (midR n k r c 0)) ∨ (cbAll k n c r = none ∧ ∃ i, i ≤ n ∧ dplus (r i k) (r k i) < 1) := by
  induction c with
  | zero =>
    refine .inl ?_
    show some r = _
    congr 1
    funext a c
    unfold midR
    rw [if_neg (by omega)]
  | succ c ih =>
    rcases ih (by omega) with e | ⟨e, h⟩
    · have st : cbAll k n (c + 1) r = cbRow k c (n + 1) (midR n k r c 0) := by simp [cbAll, e]
      rw [st]
      rcases row_mid hs ho hk c (by omega) (n + 1) (Nat.le_refl _) with e2 | ⟨e2, h2⟩
      · exact .inl (by rw [e2, midR_row])
      · exact .inr ⟨e2, c, by omega, h2⟩
    · exact .inr ⟨by simp [cbAll, e], h⟩
theorem mid_all (n k : Nat) (r : Mat) : midR n k r (n + 1) 0 = tgt n k r := by
  funext a c
  unfold midR tgt
  congr 1
  apply propext
  omega
/-- All entries are of this size. -/
def FinM (n : Nat) (K : Int) (r : Mat) : Prop := ∀ i j, i ≤ n → j ≤ n → Fin' K (r i j)
theorem still_of {n k : Nat} {r : Mat} {K : Int} (hK : K ≤ 1152921504606846976) (hf : FinM n K r) (ho : One n r) (hk : k ≤ n) : Still n k r := by
  refine ⟨fun i hi => ?_, fun j hj => ?_⟩
  · rw [dplus_pl (hf i k hi hk) (hf k k hk hk) hK, ho k hk, pl_one ((hf i k hi hk).mono hK)]
    omega
  · rw [dplus_pl (hf k k hk hk) (hf k j hk hj) hK, ho k hk, pl_comm, pl_one ((hf k j hk hj).mono hK)]
    omega
theorem fin_tgt {n k : Nat} {r : Mat} {K : Int} (hK : K ≤ 1152921504606846976) (h0 : 0 ≤ K) (hf : FinM n K r) (hk : k ≤ n) : FinM n (2 * K + 1) (tgt n k r) := by
  intro i j hi hj
  unfold tgt
  rw [if_pos ⟨hi, hj⟩, dplus_pl (hf i k hi hk) (hf k j hk hj) hK]
  have a := (hf i j hi hj).mono (show K ≤ 2 * K + 1 by omega)
  have b := pl_fin (hf i k hi hk) (hf k j hk hj)
  by_cases q : r i j ≤ pl (r i k) (r k j)
  · rw [show min (r i j) (pl (r i k) (r k j)) = r i j by omega]; exact a
  · rw [show min (r i j) (pl (r i k) (r k j)) = pl (r i k) (r k j) by omega]; exact b
/-! ### The inequality of triangles -/
def Tri (n K : Nat) (r : Mat) : Prop := ∀ k, k < K → ∀ i j, i ≤ n → j ≤ n → r i j ≤ pl (r i k) (r k j)
theorem tri_step {n K : Nat} {r : Mat} (hf : FinM n 144115188075855872 r) (ho : One n r) (hK : K ≤ n) (h1 : ∀ i, i ≤ n → 1 ≤ pl (r i K) (r K i)) (h : Tri n K r) : Tri n (K + 1) (tgt n K r) := by
  have ff : ∀ i j, i ≤ n → j ≤ n → F (r i j) := fun i j hi hj => (hf i j hi hj).mono (by decide)
  have fp : ∀ i j k l, i ≤ n → j ≤ n → k ≤ n → l ≤ n → F (pl (r i j) (r k l)) := fun i j k l hi hj hk hl => (pl_fin (hf i j hi hj) (hf k l hk hl)).mono (by decide)
  have T : ∀ i j, i ≤ n → j ≤ n → tgt n K r i j = min (r i j) (pl (r i K) (r K j)) := fun i j hi hj => by
    unfold tgt
    rw [if_pos ⟨hi, hj⟩, dplus_pl (hf i K hi hK) (hf K j hK hj) (by decide)]
  intro k hk i j hi hj
  have kn : k ≤ n := by omega
  rw [T i j hi hj, T i k hi kn, T k j kn hj]
  by_cases e : k = K
  · subst e
    have a : pl (r i k) (r k k) = r i k := by rw [ho k hK]; exact pl_one (ff i k hi hK)
    have b : pl (r k k) (r k j) = r k j := by rw [ho k hK, pl_comm]; exact pl_one (ff k j hK hj)
    rw [a, b]
    have : min (r i k) (r i k) = r i k := by omega
    rw [this]
    have : min (r k j) (r k j) = r k j := by omega
    rw [this]
    omega
  · have lt : k < K := by omega
    have g1 := h k lt i j hi hj
    have g2 := h k lt K j hK hj
    have g3 := h k lt i K hi hK
    have g4 := h k lt K K hK hK
    rw [ho K hK] at g4
    by_cases q1 : r i k ≤ pl (r i K) (r K k)
    · rw [show min (r i k) (pl (r i K) (r K k)) = r i k by omega]
      by_cases q2 : r k j ≤ pl (r k K) (r K j)
      · rw [show min (r k j) (pl (r k K) (r K j)) = r k j by omega]
        omega
      · rw [show min (r k j) (pl (r k K) (r K j)) = pl (r k K) (r K j) by omega]
        rw [← pl_assoc (ff i k hi kn) (ff k K kn hK) (ff K j hK hj)]
        have := pl_mono (ff i K hi hK) (ff K j hK hj) (fp i k k K hi kn kn hK) (ff K j hK hj) g3 (Int.le_refl _)
        omega
    · rw [show min (r i k) (pl (r i K) (r K k)) = pl (r i K) (r K k) by omega]
      by_cases q2 : r k j ≤ pl (r k K) (r K j)
      · rw [show min (r k j) (pl (r k K) (r K j)) = r k j by omega]
        rw [pl_assoc (ff i K hi hK) (ff K k hK kn) (ff k j kn hj)]
        have := pl_mono (ff i K hi hK) (ff K j hK hj) (ff i K hi hK) (fp K k k j hK kn kn hj) (Int.le_refl _) g2
        omega
      · rw [show min (r k j) (pl (r k K) (r K j)) = pl (r k K) (r K j) by omega]
        rw [pl_assoc (ff i K hi hK) (ff K k hK kn) (fp k K K j kn hK hK hj), ← pl_assoc (ff K k hK kn) (ff k K kn hK) (ff K j hK hj)]
        have a := pl_mono (a := 1) (b := r K j) (.inr (by decide)) (ff K j hK hj) (fp K k k K hK kn kn hK) (ff K j hK hj) g4 (Int.le_refl _)
        rw [pl_comm, pl_one (ff K j hK hj)] at a
        have x : F (pl (pl (r K k) (r k K)) (r K j)) := (pl_fin ((pl_fin (hf K k hK kn) (hf k K kn hK))) ((hf K j hK hj).mono (show (144115188075855872 : Int) ≤ 2 * 144115188075855872 + 1 by decide))).mono (by decide)
        have b := pl_mono (ff i K hi hK) (ff K j hK hj) (ff i K hi hK) x (Int.le_refl _) a
        omega
end Go.Proofs.YtnfkmpickmonoaaGreat

/-
  What is closed holds of just the same valuations; what is closed is closed again.
-/
namespace Go.Proofs.YtnfkmpickmonoaaGreat
open Go.RowKit
set_option linter.unusedVariables false
set_option maxRecDepth 100000
def Kb : Nat → Int
  | 0 => 1073741824
  | c + 1 => 2 * Kb c + 1
theorem Kb_bd : ∀ c, c < 10 → 0 ≤ Kb c ∧ Kb c ≤ 144115188075855872 := by decide
theorem fin_mono {n : Nat} {K L : Int} {r : Mat} (h : FinM n K r) (hK : K ≤ L) : FinM n L r := fun i j hi hj => (h i j hi hj).mono hK
/-- What the rounds leave. -/
structure Rounds (n c : Nat) (r p : Mat) : Prop where
  fin : FinM n (Kb c) p
  one : One n p
  tri : Tri n c p
  le : ∀ i j, i ≤ n → j ≤ n → p i j ≤ r i j
  out : ∀ i j, ¬ (i ≤ n ∧ j ≤ n) → p i j = r i j
theorem rounds_of {n : Nat} {r : Mat} (hn : n ≤ 8) (hf : FinM n (Kb 0) r) (ho : One n r) (c : Nat) (hc : c ≤ n + 1) : ∀ p, clAll n c r = some p → Rounds n c r p := by
  induction c with
  | zero =>
    intro p e
    have e : r = p := by simpa [clAll] using e
    subst e
    exact ⟨hf, ho, fun k hk => by omega, fun _ _ _ _ => Int.le_refl _, fun _ _ _ => rfl⟩
  | succ c ih =>
    intro p e
    cases eq : clAll n c r with
    | none => simp [clAll, eq] at e
    | some q =>
      have R := ih (by omega) q eq
      have e : cbAll c n (n + 1) q = some p := by simpa [clAll, eq] using e
      have bd := Kb_bd c (by omega)
      have hs := still_of (k := c) (by omega) R.fin R.one (by omega)
      have op : One n p := by
        rcases all_both R.one c (n + 1) (Nat.le_refl _) with ⟨e2, o2⟩ | ⟨e2, _⟩
        · rw [e] at e2
          cases e2
          exact o2
        · rw [e] at e2
          cases e2
      rcases all_mid hs R.one (by omega) (n + 1) (Nat.le_refl _) with e2 | ⟨e2, _⟩
      · rw [e, mid_all] at e2
        have e2 : p = tgt n c q := by simpa using e2
        have ge : ∀ i, i ≤ n → 1 ≤ pl (q i c) (q c i) := fun i hi => by
          have := op i hi
          rw [e2] at this
          unfold tgt at this
          rw [if_pos ⟨hi, hi⟩, dplus_pl (R.fin i c hi (by omega)) (R.fin c i (by omega) hi) (by omega)] at this
          omega
        refine ⟨?_, op, ?_, fun i j hi hj => ?_, fun i j h => ?_⟩
        · rw [e2]
          exact fin_tgt (by omega) bd.1 R.fin (by omega)
        · rw [e2]
          exact tri_step (fin_mono R.fin bd.2) R.one (by omega) ge R.tri
        · have := R.le i j hi hj
          rw [e2]
          unfold tgt
          rw [if_pos ⟨hi, hj⟩]
          omega
        · rw [e2]
          unfold tgt
          rw [if_neg h]
          exact R.out i j h
      · rw [e] at e2
        cases e2
theorem close_rounds {n : Nat} {r p : Mat} (hn : n ≤ 8) (hf : FinM n (Kb 0) r) (hd : ∀ i, i ≤ n → r i i ≤ 1) (e : closeR n r = some p) : Rounds n (n + 1) r p := by
  unfold closeR at e
  cases d : diagOk n r (n + 1)
  · rw [d] at e
    cases e
  · rw [d] at e
    have ho : One n r := fun i hi => by
      have := (diagOk_iff _ _ _).1 d i (by omega)
      have := hd i hi
      omega
    exact rounds_of hn hf ho (n + 1) (Nat.le_refl _) p e
end Go.Proofs.YtnfkmpickmonoaaGreat

/-
  Zones are their valuations: the numbers keep the cells that were handed in just if they keep the closed ones, and it is not empty; and the zone of closed cells is that zone.
-/
namespace Go.Proofs.YtnfkmpickmonoaaGreat
open Go.RowKit
set_option linter.unusedVariables false
set_option maxRecDepth 100000
theorem start_at (n i j : Nat) (hi : i ≤ n) (hj : j ≤ n) : startR n (n + 1) 0 i j = startV i j := by
  unfold startR
  rw [if_pos (by omega)]
/-- The cells that were handed in, as a draft. -/
abbrev drf (n m : Nat) (l : List Int) : Mat := tgAll n l m (startR n (n + 1) 0)
theorem drf_at (n m : Nat) (l : List Int) (hm : m = (n + 1) * (n + 1)) (i j : Nat) (hi : i ≤ n) (hj : j ≤ n) : drf n m l i j = tgV (startV i j) (l.getD (i * (n + 1) + j) 0) := by
  unfold drf
  rw [tgAll_at _ _ _ _ (by omega), if_pos ⟨hi, hj, by rw [hm]; exact pos_lt hi hj⟩, start_at n i j hi hj]
def RightL (m : Nat) (l : List Int) : Prop := ∀ k, k < m → l.getD k 0 = 2147483647 ∨ (-536870912 ≤ l.getD k 0 ∧ l.getD k 0 ≤ 536870913)
theorem startV_fin (i j : Nat) : Fin' (Kb 0) (startV i j) := by
  unfold startV Fin'
  split
  · exact .inl rfl
  · exact .inr (by decide)
theorem drf_fin (n m : Nat) (l : List Int) (hm : m = (n + 1) * (n + 1)) (hr : RightL m l) : FinM n (Kb 0) (drf n m l) := by
  intro i j hi hj
  rw [drf_at n m l hm i j hi hj]
  have h1 := startV_fin i j
  have h2 := hr (i * (n + 1) + j) (by rw [hm]; exact pos_lt hi hj)
  have ho := opn_val
  have hk : Kb 0 = 1073741824 := rfl
  unfold tgV Fin' at *
  rw [hk] at h1 ⊢
  split
  · exact h1
  · omega
theorem drf_diag (n m : Nat) (l : List Int) (hm : m = (n + 1) * (n + 1)) (hr : RightL m l) (i : Nat) (hi : i ≤ n) : drf n m l i i ≤ 1 := by
  rw [drf_at n m l hm i i hi hi]
  have : startV i i = 1 := by unfold startV; rw [if_neg (by omega)]
  rw [this]
  unfold tgV
  split <;> omega
theorem narAll_at {n : Nat} {p : Mat} {m : Nat} (h : narAll n p m = true) (k : Nat) (hk : k < m) : narOk (flat n p k) = true := by
  induction m with
  | zero => omega
  | succ m ih =>
    simp only [narAll, Bool.and_eq_true] at h
    by_cases e : k = m
    · subst e; exact h.2
    · exact ih h.1 (by omega)
theorem flat_at (n : Nat) (p : Mat) (i j : Nat) (hj : j ≤ n) : flat n p (i * (n + 1) + j) = p i j := by
  unfold flat
  rw [Nat.add_comm, Nat.add_mul_div_right _ _ (by omega), Nat.div_eq_of_lt (by omega), Nat.zero_add, Nat.add_mul_mod_self_right, Nat.mod_eq_of_lt (by omega)]
end Go.Proofs.YtnfkmpickmonoaaGreat

/-
  A closed form with one bound more: it is not empty, if the bound does not go against the opposite one.
-/
namespace Go.Proofs.YtnfkmpickmonoaaGreat
open Go.RowKit
set_option linter.unusedVariables false
set_option maxRecDepth 100000
theorem rounds_above {n : Nat} {r q : Mat} (hn : n ≤ 8) (hf : FinM n (Kb 0) r) (ho : One n r) (fq : FinM n 144115188075855872 q) (oq : One n q) (tq : Tri n (n + 1) q) (le : ∀ i j, i ≤ n → j ≤ n → q i j ≤ r i j) (c : Nat) (hc : c ≤ n + 1) : ∃ p, clAll n c r = some p ∧ ∀ i j, i ≤ n → j ≤ n → q i j ≤ p i j := by
  induction c with
  | zero => exact ⟨r, rfl, le⟩
  | succ c ih =>
    obtain ⟨p, ep, lp⟩ := ih (by omega)
    have R := rounds_of hn hf ho c (by omega) p ep
    have bd := Kb_bd c (by omega)
    have hs := still_of (k := c) (by omega) R.fin R.one (by omega)
    have ff : ∀ i j, i ≤ n → j ≤ n → F (p i j) := fun i j hi hj => (R.fin i j hi hj).mono (by omega)
    have fg : ∀ i j, i ≤ n → j ≤ n → F (q i j) := fun i j hi hj => (fq i j hi hj).mono (by decide)
    have key : ∀ i j, i ≤ n → j ≤ n → q i j ≤ pl (p i c) (p c j) := fun i j hi hj => Int.le_trans (tq c (by omega) i j hi hj) (pl_mono (fg i c hi (by omega)) (fg c j (by omega) hj) (ff i c hi (by omega)) (ff c j (by omega) hj) (lp i c hi (by omega)) (lp c j (by omega) hj))
    rcases all_mid hs R.one (by omega) (n + 1) (Nat.le_refl _) with e2 | ⟨e2, i, hi, h⟩
    · refine ⟨midR n c p (n + 1) 0, by simp [clAll, ep, e2], fun i j hi hj => ?_⟩
      rw [mid_all]
      unfold tgt
      rw [if_pos ⟨hi, hj⟩, dplus_pl (R.fin i c hi (by omega)) (R.fin c j (by omega) hj) (by omega)]
      have := key i j hi hj
      have := lp i j hi hj
      omega
    · exfalso
      rw [dplus_pl (R.fin i c hi (by omega)) (R.fin c i (by omega) hi) (by omega)] at h
      have := key i i hi hi
      rw [oq i hi] at this
      omega
end Go.Proofs.YtnfkmpickmonoaaGreat

/-
  Which zone a matrix makes hangs on the closed matrices below it alone.
-/
namespace Go.Proofs.YtnfkmpickmonoaaGreat
open Go.RowKit
set_option linter.unusedVariables false
/-- A closed matrix. -/
structure Cl (n : Nat) (q : Mat) : Prop where
  fin : FinM n 144115188075855872 q
  one : One n q
  tri : Tri n (n + 1) q
def Le (n : Nat) (q r : Mat) : Prop := ∀ i j, i ≤ n → j ≤ n → q i j ≤ r i j
/-- A matrix that may be closed. -/
structure Ok (n : Nat) (r : Mat) : Prop where
  fin : FinM n (Kb 0) r
  diag : ∀ i, i ≤ n → r i i ≤ 1
theorem Rounds.cl {n : Nat} {r p : Mat} (hn : n ≤ 8) (h : Rounds n (n + 1) r p) : Cl n p := ⟨fin_mono h.fin (Kb_bd (n + 1) (by omega)).2, h.one, h.tri⟩
theorem one_of {n : Nat} {q r : Mat} (hq : Cl n q) (hr : Ok n r) (h : Le n q r) : One n r := fun i hi => by
  have := hq.one i hi
  have := h i i hi hi
  have := hr.diag i hi
  omega
/-- The greatest closed matrix below. -/
theorem close_above {n : Nat} {q r : Mat} (hn : n ≤ 8) (hq : Cl n q) (hr : Ok n r) (h : Le n q r) : ∃ p, closeR n r = some p ∧ Le n q p := by
  have o := one_of hq hr h
  obtain ⟨p, hp, hl⟩ := rounds_above hn hr.fin o hq.fin hq.one hq.tri h (n + 1) (Nat.le_refl _)
  refine ⟨p, ?_, hl⟩
  unfold closeR
  rw [o.ok]
  exact hp
theorem narAll_congr {n : Nat} {p q : Mat} (h : ∀ i j, i ≤ n → j ≤ n → p i j = q i j) : ∀ m, m ≤ (n + 1) * (n + 1) → narAll n p m = narAll n q m
  | 0, _ => rfl
  | m + 1, hm => by
    have d1 : m / (n + 1) ≤ n := by have := Nat.div_lt_of_lt_mul (show m < (n + 1) * (n + 1) by omega); omega
    have d2 : m % (n + 1) ≤ n := by have := Nat.mod_lt m (show 0 < n + 1 by omega); omega
    simp only [narAll, narAll_congr h m (by omega), flat, h _ _ d1 d2]
theorem cellsUpto_congr {n : Nat} {p q : Mat} (h : ∀ i j, i ≤ n → j ≤ n → p i j = q i j) (m : Nat) (hm : m ≤ (n + 1) * (n + 1)) : cellsUpto n p m = cellsUpto n q m := by
  funext k
  unfold cellsUpto
  split
  · rename_i hk
    have d1 : k / (n + 1) ≤ n := by have := Nat.div_lt_of_lt_mul (show k < (n + 1) * (n + 1) by omega); omega
    have d2 : k % (n + 1) ≤ n := by have := Nat.mod_lt k (show 0 < n + 1 by omega); omega
    simp only [flat, h _ _ d1 d2]
  · rfl
theorem tgV_narr {s q : Int} (hs : s = opn ∨ s = 1) (le : q ≤ s) (ok : narOk q = true) : tgV s (narB q) = q := by
  have ho := opn_val
  by_cases e : q = opn
  · have : narB q = 2147483647 := by unfold narB; rw [if_pos e]
    rw [this]
    unfold tgV
    rw [if_pos rfl]
    omega
  · have h' : ¬ (q < -536870912 ∨ 536870913 < q) := by unfold narOk at ok; simpa [e] using ok
    have : narB q = q := by unfold narB; rw [if_neg e, if_neg h']
    rw [this]
    unfold tgV
    rw [if_neg (by omega)]
    omega
theorem drf_ok (n m : Nat) (l : List Int) (hm : m = (n + 1) * (n + 1)) (hr : RightL m l) : Ok n (drf n m l) := ⟨drf_fin n m l hm hr, drf_diag n m l hm hr⟩
end Go.Proofs.YtnfkmpickmonoaaGreat

/-
  What becomes of zones by both ways, in numbers: the cells of a zone, Up, Down.
-/
namespace Go.Proofs.YtnfkmpickmonoaaGreat
open Go.RowKit
set_option linter.unusedVariables false
/-- The closed form behind a zone's cells. -/
structure FullC (n m : Nat) (p : Mat) (c : Row) : Prop where
  cl : Cl n p
  low : ∀ j, j ≤ n → p 0 j ≤ 1
  nar : narAll n p m = true
  cells : c = cellsUpto n p m
def ZC (n m : Nat) (c : Row) : Prop := c = (fun _ => 0) ∨ ∃ p, FullC n m p c
theorem zc_of {n m : Nat} {r : Mat} {c : Row} (hn : n ≤ 8) (hm : m = (n + 1) * (n + 1)) (hr : Ok n r) (h0 : ∀ j, j ≤ n → r 0 j ≤ 1) (hz : zoneR n r = some c) : ZC n m c := by
  unfold zoneR at hz
  rw [← hm] at hz
  cases e : closeR n r with
  | none =>
    rw [e] at hz
    cases hz
    exact .inl rfl
  | some p =>
    rw [e] at hz
    have hz : (if narAll n p m = true then some (cellsUpto n p m) else none) = some c := hz
    split at hz
    · rename_i na
      cases hz
      have R := close_rounds hn hr.fin hr.diag e
      exact .inr ⟨p, R.cl hn, fun j hj => Int.le_trans (R.le 0 j (by omega) hj) (h0 j hj), na, rfl⟩
    · cases hz
theorem drf_low (n m : Nat) (l : List Int) (hm : m = (n + 1) * (n + 1)) (j : Nat) (hj : j ≤ n) : drf n m l 0 j ≤ 1 := by
  rw [drf_at n m l hm 0 j (by omega) hj]
  have : startV 0 j = 1 := by unfold startV; rw [if_neg (by omega)]
  rw [this]
  unfold tgV
  split <;> omega
theorem zc_drf {n m : Nat} {l : List Int} {c : Row} (hn : n ≤ 8) (hm : m = (n + 1) * (n + 1)) (hr : RightL m l) (hz : zoneR n (drf n m l) = some c) : ZC n m c :=
  zc_of hn hm (drf_ok n m l hm hr) (fun j hj => drf_low n m l hm j hj) hz
theorem FullC.ok {n m : Nat} {p : Mat} {c : Row} (h : FullC n m p c) (hm : m = (n + 1) * (n + 1)) {i j : Nat} (hi : i ≤ n) (hj : j ≤ n) : narOk (p i j) = true := by
  have := narAll_at h.nar (i * (n + 1) + j) (by rw [hm]; exact pos_lt hi hj)
  rwa [flat_at n p i j hj] at this
theorem FullC.at {n m : Nat} {p : Mat} {c : Row} (h : FullC n m p c) (hm : m = (n + 1) * (n + 1)) {i j : Nat} (hi : i ≤ n) (hj : j ≤ n) : c (i * (n + 1) + j) = narB (p i j) := by
  rw [h.cells]
  unfold cellsUpto
  rw [if_pos (by rw [hm]; exact pos_lt hi hj), flat_at n p i j hj]
theorem narOk_cases {q : Int} (h : narOk q = true) : (q = opn ∧ narB q = 2147483647) ∨ (¬ q = opn ∧ narB q = q ∧ -536870912 ≤ q ∧ q ≤ 536870913) := by
  by_cases e : q = opn
  · exact .inl ⟨e, by unfold narB; rw [if_pos e]⟩
  · have h' : ¬ (q < -536870912 ∨ 536870913 < q) := by unfold narOk at h; simpa [e] using h
    exact .inr ⟨e, by unfold narB; rw [if_neg e, if_neg h'], by omega, by omega⟩
theorem FullC.le {n m : Nat} {p : Mat} {c : Row} (h : FullC n m p c) {i j : Nat} (hi : i ≤ n) (hj : j ≤ n) : p i j ≤ startV i j := by
  unfold startV
  have ho := opn_val
  split
  · have f := h.cl.fin i j hi hj
    unfold Fin' at f
    omega
  · by_cases i0 : i = 0
    · subst i0
      exact h.low j hj
    · obtain rfl : i = j := by omega
      have := h.cl.one i hi
      omega
theorem FullC.oR {n m : Nat} {p : Mat} {c : Row} (h : FullC n m p c) (hm : m = (n + 1) * (n + 1)) {i j : Nat} (hi : i ≤ n) (hj : j ≤ n) : Go.Proofs.YtnfkmpickmonoaaGreat.oR n c m i j = narB (p i j) := by
  unfold Go.Proofs.YtnfkmpickmonoaaGreat.oR
  rw [if_pos ⟨hj, by rw [hm]; exact pos_lt hi hj⟩, h.at hm hi hj]
theorem FullC.pm {n m : Nat} {p : Mat} {c : Row} (h : FullC n m p c) (hm : m = (n + 1) * (n + 1)) {i j : Nat} (hi : i ≤ n) (hj : j ≤ n) : tgV (startV i j) (Go.Proofs.YtnfkmpickmonoaaGreat.oR n c m i j) = p i j := by
  rw [h.oR hm hi hj]
  exact tgV_narr (by unfold startV; split; exact .inl rfl; exact .inr rfl) (h.le hi hj) (h.ok hm hi hj)
theorem FullC.zero {n m : Nat} {p : Mat} {c : Row} (h : FullC n m p c) (hm : m = (n + 1) * (n + 1)) : c 0 = 1 := by
  have := h.at hm (i := 0) (j := 0) (by omega) (by omega)
  rw [h.cl.one 0 (by omega), show narB 1 = 1 by decide] at this
  simpa using this
theorem zone_hollow {n : Nat} {r : Mat} (h : r 0 0 < 1) : zoneR n r = some (fun _ => 0) := by
  have hd : diagOk n r (n + 1) = false := diagOk_false (c := 1) (n + 1) (by omega) (by simp [diagOk]; omega)
  unfold zoneR closeR
  rw [hd]
  rfl
/-! ### Up -/
/-! ### Down -/
end Go.Proofs.YtnfkmpickmonoaaGreat
