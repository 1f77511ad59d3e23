/-
  Fractions in lowest terms: the one that stands for a quotient of two whole numbers, or that it cannot be held; the terms that sum and multiply make are lowest ones.
-/
import Derived.Test.YtnfkmpickmonoaaGreatQ41
import Derived.Test.YtnfkmpickmonoaaGreatQ3
import Derived.Deep.QuietTactic
import Derived.BigQuiet
import Derived.Test.YtnfkmpickmonoaaGreatQ15
namespace Go.Proofs.YtnfkmpickmonoaaGreat
open Go.RowKit Go.Shelf
set_option linter.unusedVariables false
/-! ### Lowest terms -/
abbrev Co (a b : Int) : Prop := gcdI a b = 1
/-! ### The fraction in lowest terms, or that it cannot be held -/
theorem sz_pos {b : Int} (h : 0 ≤ b) : sz b = b := by unfold sz; split <;> omega
/-- A right fraction is its own lowest terms. -/
theorem right_iff {n d : Int} : rightR n d = true ↔ 0 < d ∧ Co (sz n) d := by
  unfold rightR Co
  constructor
  · intro h
    simp at h
    obtain ⟨h1, h2⟩ := h
    rw [sz_pos (b := d) (by omega)] at h2
    exact ⟨h1, h2⟩
  · rintro ⟨h1, h2⟩
    simp [h1, sz_pos (by omega : 0 ≤ d), h2]
end Go.Proofs.YtnfkmpickmonoaaGreat

/-
  The contracts of rat.Add and rat.Compare for every two fractions.
-/
namespace Go.Proofs.YtnfkmpickmonoaaGreat
open Go.RowKit Go.Shelf
set_option linter.unusedVariables false
theorem sgn_sz (n : Int) : sgn (sz n) (decide (n < 0)) = n := by
  unfold sgn sz
  by_cases h : n < 0 <;> simp [h]
theorem askR (n d : Int) (hn : I64 n) (hd : I64 d) : AskR n d (rightR n d) := fun w => rightR_any n d w hn.1 hn.2 hd.1 hd.2
theorem right_pos {n d : Int} (h : rightR n d = true) : 0 < d ∧ sz d = d := by
  simp [rightR] at h
  exact ⟨h.1, by unfold sz; rw [if_neg (by omega)]⟩
def cmpV (an ad bn bd : Int) : Int := if an * bd < bn * ad then -1 else if bn * ad < an * bd then 1 else 0
theorem cmp_pure (an ad bn bd : Int) (p1 : 0 < ad) (p2 : 0 < bd) :
    (if addM (sz an * bd) (sz bn * ad) (decide (an < 0)) (!decide (bn < 0)) = 0 then (0 : Int) else if addG (sz an * bd) (sz bn * ad) (decide (an < 0)) (!decide (bn < 0)) then -1 else 1) = cmpV an ad bn bd := by
  have h := add_sgn (sz an * bd) (sz bn * ad) (decide (an < 0)) (!decide (bn < 0))
  have m0 : 0 ≤ sz an * bd := Int.mul_nonneg (by unfold sz; split <;> omega) (by omega)
  have m1 : 0 ≤ sz bn * ad := Int.mul_nonneg (by unfold sz; split <;> omega) (by omega)
  obtain ⟨b0, -⟩ := addM_bd (sz an * bd) (sz bn * ad) (decide (an < 0)) (!decide (bn < 0)) m0 m1
  rw [sgn_mul, sgn_mul, sgn_sz] at h
  have e : sgn (sz bn) (!decide (bn < 0)) = -bn := by
    have := sgn_sz bn
    revert this
    unfold sgn
    by_cases q : bn < 0 <;> simp [q] <;> omega
  rw [e, Int.neg_mul] at h
  unfold cmpV
  clear m0 m1 e
  generalize an * bd = X at *
  generalize bn * ad = Y at *
  generalize addM _ _ _ _ = M at *
  generalize addG _ _ _ _ = g at *
  cases g
  · have h' : M = X + -Y := by simpa [sgn] using h
    simp only [Bool.false_eq_true, if_false]
    repeat' split
    all_goals omega
  · have h' : -M = X + -Y := by simpa [sgn] using h
    simp only [if_true]
    repeat' split
    all_goals omega
theorem compare_right (an ad bn bd : Int) (w : World) (ha : I64 an) (hb : I64 ad) (hc : I64 bn) (hd : I64 bd) (ra : rightR an ad = true) (rb : rightR bn bd = true) :
    Calls Tryz.prog 133 #[rv an ad, rv bn bd] w fun e w' => e = .returned (.int .i64 (cmpV an ad bn bd)) ∧ Below w.heap.size w w' := by
  obtain ⟨p1, q1⟩ := right_pos ra
  obtain ⟨p2, q2⟩ := right_pos rb
  have ka := askR an ad ha hb
  have kb := askR bn bd hc hd
  rw [ra] at ka
  rw [rb] at kb
  have ta : ∀ w, Calls Tryz.prog 143 #[rv an ad] w fun e w' => e = .returned (tv (sz an) ad (decide (an < 0))) ∧ Below w.heap.size w w' := fun w => by
    have := termsOf_any an ad w ha.1 ha.2 hb.1 hb.2
    rw [q1] at this
    exact this
  have tb : ∀ w, Calls Tryz.prog 143 #[rv bn bd] w fun e w' => e = .returned (tv (sz bn) bd (decide (bn < 0))) ∧ Below w.heap.size w w' := fun w => by
    have := termsOf_any bn bd w hc.1 hc.2 hd.1 hd.2
    rw [q2] at this
    exact this
  have s1 := sz_bd an ha.1 ha.2
  have s2 := sz_bd bn hc.1 hc.2
  have b1 := hb.2
  have b2 := hd.2
  obtain ⟨x0, x1⟩ := prod_bd (sz an) bd 9223372036854775808 9223372036854775808 s1.1 (by omega) s1.2 (by omega)
  obtain ⟨y0, y1⟩ := prod_bd (sz bn) ad 9223372036854775808 9223372036854775808 s2.1 (by omega) s2.2 (by omega)
  obtain ⟨M0, M1⟩ := addM_bd (sz an * bd) (sz bn * ad) (decide (an < 0)) (!decide (bn < 0)) x0 y0
  rw [← cmp_pure an ad bn bd p1 p2]
  exact compare_yes an ad bn bd _ _ _ _ _ _ _ _ _ _ _ _ _ _ w ka kb ta tb
    (fun w => times_any (sz an) ad bd (decide (an < 0)) w ⟨s1.1, by omega⟩ ⟨by omega, by omega⟩)
    (fun w => opposite_any (sz bn) bd (decide (bn < 0)) w)
    (fun w => times_any (sz bn) bd ad (!decide (bn < 0)) w ⟨s2.1, by omega⟩ ⟨by omega, by omega⟩)
    (fun w => addS_any _ _ _ _ w ⟨x0, by omega⟩ ⟨y0, by omega⟩ ⟨by omega, by omega⟩)
    (fun w => sign_any _ _ w ⟨M0, by omega⟩)
end Go.Proofs.YtnfkmpickmonoaaGreat

/-
  The contracts of bound.Holds and bound.Not: for every bound and fraction they return what the plain functions below say; nothing that was there turns.
-/
namespace Go.Proofs.YtnfkmpickmonoaaGreat
open Go.RowKit
set_option linter.unusedVariables false

/-- Does num / den keep the bound? (Inf: always; else not, if the bound is not right or den is below 1.) -/
def holdsB6 (b n d : Int) : Bool := decide (b = 2147483647) || (finB b && decide (1 ≤ d) && (if valR b then decide (n ≤ valV b * d) else decide (n < valV b * d)))

end Go.Proofs.YtnfkmpickmonoaaGreat

/-
  Fractions against bounds: by whole parts and rests, and by one division of whole numbers.
-/
namespace Go.Proofs.YtnfkmpickmonoaaGreat
open Go.RowKit
set_option linter.unusedVariables false
--BEGIN
/-- A less b against a number, whole parts first. -/
def gapV (an ad bn bd n : Int) : Int := if an / ad - bn / bd < n then -1 else if n < an / ad - bn / bd then 1 else cmpV (an % ad) ad (bn % bd) bd
def keepB (b an ad bn bd : Int) : Bool := !finB b || (decide (gapV an ad bn bd (valV b) < 0) || (decide (gapV an ad bn bd (valV b) = 0) && valR b))
theorem gap_split (an ad bn bd n : Int) : an * bd - bn * ad - n * (ad * bd) = (an / ad - bn / bd - n) * (ad * bd) + (an % ad * bd - bn % bd * ad) := by
  have e1 : an * bd = (an / ad * ad + an % ad) * bd := by rw [Int.mul_comm (an / ad) ad, Int.mul_ediv_add_emod]
  have e2 : bn * ad = (bn / bd * bd + bn % bd) * ad := by rw [Int.mul_comm (bn / bd) bd, Int.mul_ediv_add_emod]
  rw [e1, e2]
  generalize an / ad = x
  generalize bn / bd = y
  generalize an % ad = u
  generalize bn % bd = v
  simp only [Int.add_mul, Int.sub_mul]
  rw [show x * ad * bd = x * (ad * bd) from Int.mul_assoc _ _ _, show y * bd * ad = y * (ad * bd) by rw [Int.mul_assoc, Int.mul_comm bd ad]]
  omega
theorem rest_bd (an ad bn bd : Int) (p : 0 < ad) (q : 0 < bd) : -(ad * bd) < an % ad * bd - bn % bd * ad ∧ an % ad * bd - bn % bd * ad < ad * bd := by
  have a0 := Int.emod_nonneg an (show ad ≠ 0 by omega)
  have a1 := Int.emod_lt_of_pos an p
  have b0 := Int.emod_nonneg bn (show bd ≠ 0 by omega)
  have b1 := Int.emod_lt_of_pos bn q
  generalize an % ad = u at *
  generalize bn % bd = v at *
  have h1 : u * bd < ad * bd := Int.mul_lt_mul_of_pos_right a1 q
  have h2 : v * ad < bd * ad := Int.mul_lt_mul_of_pos_right b1 p
  have h3 : 0 ≤ u * bd := Int.mul_nonneg a0 (by omega)
  have h4 : 0 ≤ v * ad := Int.mul_nonneg b0 (by omega)
  rw [Int.mul_comm bd ad] at h2
  omega
theorem gap_sign (an ad bn bd n : Int) (p : 0 < ad) (q : 0 < bd) : (gapV an ad bn bd n < 0 ↔ an * bd - bn * ad < n * (ad * bd)) ∧ (gapV an ad bn bd n = 0 ↔ an * bd - bn * ad = n * (ad * bd)) := by
  have s := gap_split an ad bn bd n
  have r := rest_bd an ad bn bd p q
  have pq : 0 < ad * bd := Int.mul_pos p q
  unfold gapV cmpV
  generalize an / ad = x at *
  generalize bn / bd = y at *
  generalize an % ad * bd = u at *
  generalize bn % bd * ad = v at *
  generalize an * bd - bn * ad = D at *
  generalize n * (ad * bd) = E at *
  by_cases c1 : x - y < n
  · have : (x - y - n) * (ad * bd) ≤ -1 * (ad * bd) := Int.mul_le_mul_of_nonneg_right (by omega) (by omega)
    rw [if_pos c1]
    constructor <;> constructor <;> intro h <;> omega
  · rw [if_neg c1]
    by_cases c2 : n < x - y
    · have : 1 * (ad * bd) ≤ (x - y - n) * (ad * bd) := Int.mul_le_mul_of_nonneg_right (by omega) (by omega)
      rw [if_pos c2]
      constructor <;> constructor <;> intro h <;> omega
    · rw [if_neg c2]
      have z : x - y - n = 0 := by omega
      rw [z, Int.zero_mul] at s
      split
      · constructor <;> constructor <;> intro h <;> omega
      · split <;> (constructor <;> constructor <;> intro h <;> omega)
/-- The program's test is the exact one. -/
theorem keepB_holds (b an ad bn bd : Int) (p : 0 < ad) (q : 0 < bd) (hb : rightB b = true) : keepB b an ad bn bd = holdsB6 b (an * bd - bn * ad) (ad * bd) := by
  obtain ⟨g1, g2⟩ := gap_sign an ad bn bd (valV b) p q
  have pq : 1 ≤ ad * bd := Int.mul_pos p q
  unfold keepB holdsB6
  by_cases f : finB b = true
  · have e : ¬ b = 2147483647 := by
      simp only [finB, decide_eq_true_eq] at f
      omega
    simp only [f, e, Bool.not_true, Bool.false_or, decide_false, Bool.true_and, decide_eq_true pq]
    generalize gapV an ad bn bd (valV b) = G at *
    generalize valV b * (ad * bd) = E at *
    generalize an * bd - bn * ad = D at *
    cases valR b
    · simp [g1]
    · simp only [Bool.and_true, if_true]
      rw [Bool.eq_iff_iff]
      simp only [Bool.or_eq_true, decide_eq_true_eq]
      omega
  · have f' : finB b = false := by simpa using f
    have e : b = 2147483647 := by
      simp only [finB, rightB, decide_eq_true_eq, decide_eq_false_iff_not] at *
      omega
    rw [f', e]
    rfl
/-- The same difference in other parts. -/
theorem holdsB_scale {b D G X g : Int} (hG : 0 < G) (hg : 0 < g) (e : D * g = X * G) : holdsB6 b D G = holdsB6 b X g := by
  unfold holdsB6
  have h1 : decide (1 ≤ G) = true := decide_eq_true (by omega)
  have h2 : decide (1 ≤ g) = true := decide_eq_true (by omega)
  rw [h1, h2]
  have le : ∀ V : Int, D ≤ V * G ↔ X ≤ V * g := fun V => by
    have a : V * G * g = V * g * G := by rw [Int.mul_assoc, Int.mul_comm G g, Int.mul_assoc]
    constructor
    · intro h
      have := Int.mul_le_mul_of_nonneg_right h (show 0 ≤ g by omega)
      rw [e, a] at this
      exact Int.le_of_mul_le_mul_right this hG
    · intro h
      have := Int.mul_le_mul_of_nonneg_right h (show 0 ≤ G by omega)
      rw [← e, ← a] at this
      exact Int.le_of_mul_le_mul_right this hg
  have lt : ∀ V : Int, D < V * G ↔ X < V * g := fun V => by
    have a : V * G * g = V * g * G := by rw [Int.mul_assoc, Int.mul_comm G g, Int.mul_assoc]
    constructor
    · intro h
      have := Int.mul_lt_mul_of_pos_right h hg
      rw [e, a] at this
      exact Int.lt_of_mul_lt_mul_right this (by omega)
    · intro h
      have := Int.mul_lt_mul_of_pos_right h hG
      rw [← e, ← a] at this
      exact Int.lt_of_mul_lt_mul_right this (by omega)
  rw [show decide (D ≤ valV b * G) = decide (X ≤ valV b * g) from by rw [decide_eq_decide]; exact le _, show decide (D < valV b * G) = decide (X < valV b * g) from by rw [decide_eq_decide]; exact lt _]
--END
end Go.Proofs.YtnfkmpickmonoaaGreat

/-
  The contracts of rat.Div, divide, Floor, Ceil and Frac.
-/
namespace Go.Proofs.YtnfkmpickmonoaaGreat
open Go.RowKit Go.Shelf
set_option linter.unusedVariables false
/-! ### divide, Floor, Ceil, Frac -/
theorem tdiv_neg (n d : Int) (hd : 0 < d) (h : n.tmod d < 0) : n / d = n.tdiv d - 1 ∧ n % d = n.tmod d + d := by
  have e := Int.mul_tdiv_add_tmod n d
  have b := Int.lt_tmod_of_pos n hd
  refine (Int.ediv_emod_unique hd).2 ⟨?_, by omega, by omega⟩
  rw [Int.mul_sub]
  omega
theorem tdiv_pos (n d : Int) (hd : 0 < d) (h : ¬ n.tmod d < 0) : n / d = n.tdiv d ∧ n % d = n.tmod d := by
  have e := Int.mul_tdiv_add_tmod n d
  have b := Int.tmod_lt_of_pos n hd
  exact (Int.ediv_emod_unique hd).2 ⟨by omega, by omega, by omega⟩
theorem quo_i64 (n d : Int) (hn : I64 n) (hd : 0 < d) : I64 (n / d) := by
  obtain ⟨h0, h1⟩ := hn
  have e := Int.mul_ediv_add_emod n d
  have r0 := Int.emod_nonneg n (show d ≠ 0 by omega)
  have r1 := Int.emod_lt_of_pos n hd
  constructor
  · by_cases c : 0 ≤ n / d
    · omega
    · have : n ≤ n / d := by
        have h := Int.mul_le_mul_of_nonpos_right (show 1 ≤ d by omega) (show n / d ≤ 0 by omega)
        rcases Int.lt_or_le n (n / d + 1) with h | h
        · omega
        · have k : d * (n / d + 1) ≤ 1 * (n / d + 1) := Int.mul_le_mul_of_nonpos_right (by omega) (by omega)
          rw [Int.mul_add] at k
          omega
      omega
  · by_cases c : n / d ≤ 0
    · omega
    · have h : 1 * (n / d) ≤ d * (n / d) := Int.mul_le_mul_of_nonneg_right (by omega) (by omega)
      omega
set_option maxRecDepth 100000 in
theorem divide_any (n d : Int) (w : World) (hn : I64 n) (d0 : 0 < d) (d1 : d ≤ 9223372036854775807) :
    Calls Tryz.prog 142 #[rv n d] w fun e w' => e = .returned (.tuple #[.int .i64 (n / d), .int .i64 (n % d)]) ∧ Below w.heap.size w w' := by
  have z : ¬ d = 0 := by omega
  have q := quo_i64 n d hn d0
  have r0 := Int.emod_nonneg n z
  have r1 := Int.emod_lt_of_pos n d0
  by_cases c : n.tmod d < 0
  · obtain ⟨e1, e2⟩ := tdiv_neg n d d0 c
    have b := Int.lt_tmod_of_pos n d0
    have nn : n < 0 := by
      apply Int.lt_of_not_ge
      intro h
      have := Int.tmod_nonneg d h
      omega
    have qn : n / d < 0 := Int.ediv_neg_of_neg_of_pos nn d0
    have w1 : IntKind.i64.wrap (n.tdiv d) = n.tdiv d := by rw [IntKind.wrap_i64]; have := q.1; have := q.2; omega
    have w2 : IntKind.i64.wrap (n.tmod d) = n.tmod d := by rw [IntKind.wrap_i64]; omega
    have w3 : IntKind.i64.wrap (n.tdiv d - 1) = n / d := by rw [IntKind.wrap_i64]; have := q.1; have := q.2; omega
    have w4 : IntKind.i64.wrap (n.tmod d + d) = n % d := by rw [IntKind.wrap_i64]; omega
    clear q r0 r1 b e1 e2 hn d0 d1 nn qn
    generalize n / d = X at *
    generalize n % d = Y at *
    go_enter Tryz.func142, Tryz.ntmps142
    go_wp2
    have c0 : (w.alloc (.cells #[.int .i64 n, .int .i64 d] 140)).cell? ⟨w.heap.size, 0, none⟩ = some (.int .i64 n) := by simp [go_sem]
    have c1 : (w.alloc (.cells #[.int .i64 n, .int .i64 d] 140)).cell? ⟨w.heap.size, 1, none⟩ = some (.int .i64 d) := by simp [go_sem]
    go_region_held3 (fun w' => w'.cell? ⟨w.heap.size, 0, none⟩ = some (.int .i64 n) ∧ w'.cell? ⟨w.heap.size, 1, none⟩ = some (.int .i64 d))
      (first | exact ⟨by assumption, by assumption⟩ | go_keep) (fail)
    all_goals go_wp2
    all_goals (first | go_region_held3 (fun w' => w'.cell? ⟨w.heap.size, 0, none⟩ = some (.int .i64 n) ∧ w'.cell? ⟨w.heap.size, 1, none⟩ = some (.int .i64 d)) (first | exact ⟨by assumption, by assumption⟩ | go_keep) (fail) | skip)
    all_goals (try go_wp2)
    all_goals
      refine bodyPost_ret (v := .tuple #[.int .i64 X, .int .i64 Y]) (by simp [results, Tryz.results142, go_sem, *]) rfl ⟨rfl, ?_⟩
      first | exact Below.drew (Below.drew (single _ _)) | exact Below.drew (single _ _)
  · obtain ⟨e1, e2⟩ := tdiv_pos n d d0 c
    have w1 : IntKind.i64.wrap (n.tdiv d) = n.tdiv d := by rw [IntKind.wrap_i64]; have := q.1; have := q.2; omega
    have w2 : IntKind.i64.wrap (n.tmod d) = n.tmod d := by rw [IntKind.wrap_i64]; omega
    rw [e1, e2]
    clear q r0 r1 e1 e2 hn d0 d1
    go_enter Tryz.func142, Tryz.ntmps142
    go_wp2
    have c0 : (w.alloc (.cells #[.int .i64 n, .int .i64 d] 140)).cell? ⟨w.heap.size, 0, none⟩ = some (.int .i64 n) := by simp [go_sem]
    have c1 : (w.alloc (.cells #[.int .i64 n, .int .i64 d] 140)).cell? ⟨w.heap.size, 1, none⟩ = some (.int .i64 d) := by simp [go_sem]
    go_region_held3 (fun w' => w'.cell? ⟨w.heap.size, 0, none⟩ = some (.int .i64 n) ∧ w'.cell? ⟨w.heap.size, 1, none⟩ = some (.int .i64 d))
      (first | exact ⟨by assumption, by assumption⟩ | go_keep) (fail)
    all_goals go_wp2
    all_goals (first | go_region_held3 (fun w' => w'.cell? ⟨w.heap.size, 0, none⟩ = some (.int .i64 n) ∧ w'.cell? ⟨w.heap.size, 1, none⟩ = some (.int .i64 d)) (first | exact ⟨by assumption, by assumption⟩ | go_keep) (fail) | skip)
    all_goals (try go_wp2)
    all_goals
      refine bodyPost_ret (v := .tuple #[.int .i64 (n.tdiv d), .int .i64 (n.tmod d)]) (by simp [results, Tryz.results142, go_sem, *]) rfl ⟨rfl, ?_⟩
      first | exact Below.drew (Below.drew (single _ _)) | exact Below.drew (single _ _)
abbrev AskD (n d x y : Int) : Prop := ∀ w, Calls Tryz.prog 142 #[rv n d] w fun e w' => e = .returned (.tuple #[.int .i64 x, .int .i64 y]) ∧ Below w.heap.size w w'
theorem floor_not (n d : Int) (w : World) (HR : Hid (AskR n d false)) : Calls Tryz.prog 132 #[rv n d] w fun e w' => e = .returned (.int .i64 0) ∧ Below w.heap.size w w' := by
  go_enter Tryz.func132, Tryz.ntmps132
  go_wp2_with fail
  refine (HR.out _).mono ?_
  rintro e w1 ⟨rfl, hb⟩
  have hB := beyond (single w _) hb
  go_wp2_with fail
  go_ret
  exact ⟨rfl, hB⟩
theorem floor_yes (n d x y : Int) (w : World) (HR : Hid (AskR n d true)) (HD : Hid (AskD n d x y)) : Calls Tryz.prog 132 #[rv n d] w fun e w' => e = .returned (.int .i64 x) ∧ Below w.heap.size w w' := by
  go_enter Tryz.func132, Tryz.ntmps132
  go_wp2_with fail
  refine (HR.out _).mono ?_
  rintro e w1 ⟨rfl, hb⟩
  have s0 := kc ⟨w.heap.size, 0, none⟩ (.int .i64 n) hb (by first | assumption | simp [go_sem, *])
  have s1 := kc ⟨w.heap.size, 1, none⟩ (.int .i64 d) hb (by first | assumption | simp [go_sem, *])
  have hB := beyond (single w _) hb
  clear hb
  go_wp2_with fail
  refine (HD.out _).mono ?_
  rintro e w2 ⟨rfl, hb⟩
  have hB2 := beyond hB hb
  go_wp2_with fail
  go_ret
  exact ⟨rfl, hB2⟩
theorem frac_yes (n d x y : Int) (w : World) (HR : Hid (AskR n d true)) (HD : Hid (AskD n d x y)) : Calls Tryz.prog 134 #[rv n d] w fun e w' => e = .returned (rv y d) ∧ Below w.heap.size w w' := by
  go_enter Tryz.func134, Tryz.ntmps134
  go_wp2_with fail
  refine (HR.out _).mono ?_
  rintro e w1 ⟨rfl, hb⟩
  have s0 := kc ⟨w.heap.size, 0, none⟩ (.int .i64 n) hb (by first | assumption | simp [go_sem, *])
  have s1 := kc ⟨w.heap.size, 1, none⟩ (.int .i64 d) hb (by first | assumption | simp [go_sem, *])
  have s2 := kc ⟨w.heap.size + 1, 0, none⟩ (.int .i64 0) hb (by first | assumption | simp [go_sem, *])
  have s3 := kc ⟨w.heap.size + 1, 1, none⟩ (.int .i64 0) hb (by first | assumption | simp [go_sem, *])
  have s4 := kf ⟨w.heap.size + 1, 0, none⟩ (.int .i64 0) hb (by first | assumption | simp [go_sem, *]) (by first | assumption | simp [go_sem, *])
  have s5 := kf ⟨w.heap.size + 1, 1, none⟩ (.int .i64 0) hb (by first | assumption | simp [go_sem, *]) (by first | assumption | simp [go_sem, *])
  have hB := beyond (two w _ _) hb
  clear hb
  go_wp2_with fail
  refine (HD.out _).mono ?_
  rintro e w2 ⟨rfl, hb⟩
  have u0 := kc _ _ hb s0
  have u1 := kc _ _ hb s1
  have u2 := kc _ _ hb s2
  have u3 := kc _ _ hb s3
  have u4 := kf _ _ hb s2 s4
  have u5 := kf _ _ hb s3 s5
  have hB2 := beyond hB hb
  go_wp2_with fail
  refine bodyPost_ret (v := rv y d) (by simp [results, Tryz.results134, go_sem, *]) rfl ⟨rfl, ?_⟩
  first | exact set2 hB2 (by omega) _ _ | exact hB2
theorem askD (n d : Int) (hn : I64 n) (d0 : 0 < d) (d1 : d ≤ 9223372036854775807) : AskD n d (n / d) (n % d) := fun w => divide_any n d w hn d0 d1
def floorT (n d : Int) : Int := if rightR n d then n / d else 0
theorem floor_any (n d : Int) (w : World) (hn : I64 n) (hd : I64 d) : Calls Tryz.prog 132 #[rv n d] w fun e w' => e = .returned (.int .i64 (floorT n d)) ∧ Below w.heap.size w w' := by
  have k := askR n d hn hd
  cases r : rightR n d
  · rw [r] at k
    have e : floorT n d = 0 := by simp [floorT, r]
    rw [e]
    exact floor_not n d w k
  · rw [r] at k
    have e : floorT n d = n / d := by simp [floorT, r]
    rw [e]
    exact floor_yes n d _ _ w k (askD n d hn (right_pos r).1 hd.2)
end Go.Proofs.YtnfkmpickmonoaaGreat
