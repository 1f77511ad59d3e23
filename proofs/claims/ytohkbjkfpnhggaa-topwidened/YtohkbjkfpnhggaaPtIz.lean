/-
  The least numbers of a zone on its grid: they keep its bounds, and nothing on the grid that keeps them is smaller anywhere.
-/
import Derived.Test.YtohkbjkfpnhggaaPtAz
import Derived.Test.YtohkbjkfpnhggaaFfz
import Derived.Test.YtohkbjkfpnhggaaPt0z
namespace Go.Proofs.Ytohkbjkfpnhggaa
open Go.RowKit Go.Shelf
set_option linter.unusedVariables false
set_option maxRecDepth 100000
theorem mul_bd {V g : Int} (v0 : -268435456 ≤ V) (v1 : V ≤ 268435456) (g0 : 1 ≤ g) (g1 : g ≤ 9) : -2415919104 ≤ V * g ∧ V * g ≤ 2415919104 := by
  have a : V * g ≤ 268435456 * g := Int.mul_le_mul_of_nonneg_right v1 (by omega)
  have b : -268435456 * g ≤ V * g := Int.mul_le_mul_of_nonneg_right v0 (by omega)
  omega
theorem cur_bd {n : Nat} {p : Mat} {g : Int} (hn : n ≤ 8) (h : Closed n p) (hg : g = n + 1) (hk : ∀ j, j ≤ n → -536870912 ≤ p 0 j) {v : Val} (u : Upper n p g v) (a : Nat) (ha : a ≤ n) : v a ≤ 4294967296 := by
  obtain ⟨q, c, le⟩ := u a ha
  have ql := chain_le h q a ha c
  have := hk a ha
  have := low_nonneg h a ha
  have b := mul_bd (V := lowL p a) (g := g) (by omega) (by unfold lowL; omega) (by omega) (by omega)
  omega
theorem cell_opn {b : Int} (h : b = opn) : narB b = 2147483647 ∧ finB 2147483647 = false := ⟨by unfold narB; rw [if_pos h], by decide⟩
theorem cell_fin {b : Int} (h : ¬ b = opn) (ok : narOk b = true) : narB b = b ∧ finB b = true ∧ valV b = b / 2 ∧ (valR b = decide (b % 2 = 1)) ∧ -536870912 ≤ b ∧ b ≤ 536870913 := by
  have h' : ¬ (b < -536870912 ∨ 536870913 < b) := by unfold narOk at ok; simpa [h] using ok
  have hf : finB b = true := by unfold finB; simp; omega
  exact ⟨by unfold narB; rw [if_neg h, if_neg h'], hf, by simp [valV, hf], by simp [valR, hf], by omega, by omega⟩
/-- A zone that is not empty: its closed draft, and its cells. -/
structure Full (n m : Nat) (p : Mat) (c : Row) : Prop where
  fin : FinM n 1073741824 p
  one : One n p
  tri : Tri n (n + 1) p
  st : ∀ a b, a ≤ n → b ≤ n → p a b ≤ startV a b
  out : ∀ a b, ¬ (a ≤ n ∧ b ≤ n) → p a b = startR n (n + 1) 0 a b
  nar : narAll n p m = true
  cells : c = cellsUpto n p m
theorem Full.ok {n m : Nat} {p : Mat} {c : Row} (h : Full n m p c) (hm : m = (n + 1) * (n + 1)) (a b : Nat) (ha : a ≤ n) (hb : b ≤ n) : narOk (p a b) = true := by
  have := narAll_at h.nar (a * (n + 1) + b) (by rw [hm]; exact pos_lt ha hb)
  rw [flat_at n p a b hb] at this
  exact this
theorem Full.closed {n m : Nat} {p : Mat} {c : Row} (h : Full n m p c) : Closed n p :=
  ⟨fin_mono h.fin (by decide), h.one, h.tri, fun j hj => by
    have := h.st 0 j (by omega) hj
    have e : startV 0 j = 1 := by unfold startV; rw [if_neg (by omega)]
    omega⟩
theorem Full.at {n m : Nat} {p : Mat} {c : Row} (h : Full n m p c) (hm : m = (n + 1) * (n + 1)) (a b : Nat) (ha : a ≤ n) (hb : b ≤ n) : c (a * (n + 1) + b) = narB (p a b) := by
  have := cells_at n m p hm a b ha hb
  rw [listOf_get _ _ _ (by rw [hm]; exact pos_lt ha hb), ← h.cells] at this
  exact this
theorem full_of {n m : Nat} {l : List Int} {c : Row} (hn : n ≤ 8) (hm : m = (n + 1) * (n + 1)) (hr : RightL m l) (hz : zoneR n (drf n m l) = some c) (h0 : ¬ c 0 < 1) : ∃ p, Full n m p c := by
  unfold zoneR at hz
  rw [← hm] at hz
  cases e : closeR n (drf n m l) with
  | none =>
    rw [e] at hz
    cases hz
    exact absurd (show (0 : Int) < 1 by decide) h0
  | some p =>
    rw [e] at hz
    have hz : (if narAll n p m = true then some (cellsUpto n p m) else none) = some c := hz
    split at hz
    · rename_i hna
      cases hz
      have R := close_rounds hn (drf_fin n m l hm hr) (drf_diag n m l hm hr) e
      refine ⟨p, ?_, R.one, R.tri, fun a b ha hb => ?_, fun a b h => ?_, hna, rfl⟩
      · intro a b ha hb
        have := narAll_at hna (a * (n + 1) + b) (by rw [hm]; exact pos_lt ha hb)
        rw [flat_at n p a b hb] at this
        by_cases q : p a b = opn
        · exact .inl q
        · have := cell_fin q this
          exact .inr (by omega)
      · have le := R.le a b ha hb
        rw [drf_at n m l hm a b ha hb] at le
        have le2 : tgV (startV a b) (l.getD (a * (n + 1) + b) 0) ≤ startV a b := by unfold tgV; split <;> omega
        omega
      · rw [R.out a b h, drf_out n m l hm a b h]
    · cases hz

theorem holdsW_gW {b x g : Int} (hb : ¬ b = opn) : holdsW b x g ↔ x ≤ gW b g := by
  unfold holdsW gW
  have h2 := Int.emod_two_eq b
  obtain ⟨y, hy⟩ : ∃ y, y = b / 2 := ⟨_, rfl⟩
  rcases h2 with h | h
  · rw [if_neg (by omega)]
    have e : b * g = 2 * (y * g) := by rw [show b = 2 * y by omega, Int.mul_assoc]
    rw [e, ← hy]
    constructor
    · rintro (h' | h' | h') <;> omega
    · intro h'; right; right; omega
  · rw [if_pos h]
    have e : (b - 1) * g = 2 * (y * g) := by rw [show b - 1 = 2 * y by omega, Int.mul_assoc]
    rw [e, ← hy]
    constructor
    · rintro (h' | h' | h') <;> omega
    · intro h'; right; left; omega
theorem keeps_gSol {n : Nat} {p : Mat} {g : Int} {x : Val} : keepsM n x g p ↔ gSol n p g x := by
  constructor
  · intro h i j hi hj f
    exact (holdsW_gW f).1 (h i j hi hj)
  · intro h i j hi hj
    by_cases f : p i j = opn
    · exact .inl f
    · exact (holdsW_gW f).2 (h i j hi hj f)
theorem pW_full {n m : Nat} {p : Mat} {c : Row} (h : Full n m p c) (hm : m = (n + 1) * (n + 1)) (i j : Nat) (hi : i ≤ n) (hj : j ≤ n) : pW n c i j = p i j := by
  unfold pW
  rw [h.at hm i j hi hj]
  by_cases f : p i j = opn
  · rw [(cell_opn f).1, if_pos rfl, f]
  · obtain ⟨e, _, _, _, _, l⟩ := cell_fin f (h.ok hm i j hi hj)
    rw [e, if_neg (by omega)]
theorem pW_closed {n m : Nat} {p : Mat} {c : Row} (h : Full n m p c) (hm : m = (n + 1) * (n + 1)) : Closed n (pW n c) := by
  have C := h.closed
  have e := pW_full h hm
  refine ⟨fun i j hi hj => by rw [e i j hi hj]; exact C.fin i j hi hj, fun i hi => by rw [e i i hi hi]; exact C.one i hi, ?_, fun j hj => by rw [e 0 j (by omega) hj]; exact C.low j hj⟩
  have T := C.tri
  intro k hk i j hi hj
  rw [e i j hi hj, e i k hi (by omega), e k j (by omega) hj]
  exact T k hk i j hi hj
def bestV (n : Nat) (c : Row) : Val := gRounds n (pW n c) ((n : Int) + 1) n (fun _ => 0)
structure Best (n : Nat) (c : Row) (V : Val) : Prop where
  zero : V 0 = 0
  nn : ∀ a, a ≤ n → 0 ≤ V a
  le : ∀ a, a ≤ n → V a ≤ 4294967296
  sol : gSol n (pW n c) ((n : Int) + 1) V
  least : ∀ x, gSol n (pW n c) ((n : Int) + 1) x → (∀ a, a ≤ n → 0 ≤ x a) → ∀ a, a ≤ n → V a ≤ x a
theorem best_of {n m : Nat} {p : Mat} {c : Row} (hn : n ≤ 8) (h : Full n m p c) (hm : m = (n + 1) * (n + 1)) : Best n c (bestV n c) := by
  have C := pW_closed h hm
  have K := keeps_gSol.1 (inside_keeps C (show (n : Int) + 1 = n + 1 from rfl))
  have N := rounds_nonneg n (pW n c) ((n : Int) + 1) (n + 2)
  have Lw := fun x (hx : gSol n (pW n c) ((n : Int) + 1) x) (h0 : ∀ a, a ≤ n → 0 ≤ x a) => gRounds_below hx h0 (n + 2)
  have E := rounds_least K (fun a _ => N a) (fun x hx h0 a ha => Lw x hx h0 a ha) (fun j hj => ⟨low_fin C j hj, by
    have := C.low j hj
    unfold gW
    have y : pW n c 0 j / 2 ≤ 0 := by omega
    have : pW n c 0 j / 2 * ((n : Int) + 1) ≤ 0 * ((n : Int) + 1) := Int.mul_le_mul_of_nonneg_right y (by omega)
    split <;> omega⟩)
  have Z : gRounds n (pW n c) ((n : Int) + 1) (n + 2) (fun _ => 0) 0 = 0 := by
    generalize gRounds n (pW n c) ((n : Int) + 1) (n + 2) (fun _ => 0) = F at *
    have h := Lw (fun a => F a - F 0) (fun i j hi hj f => by have := K i j hi hj f; show F i - F 0 - (F j - F 0) ≤ _; omega) (fun a ha => by
      have k := K 0 a (by omega) ha (low_fin C a ha)
      have := C.low a ha
      unfold gW at k
      have y : pW n c 0 a / 2 ≤ 0 := by omega
      have : pW n c 0 a / 2 * ((n : Int) + 1) ≤ 0 * ((n : Int) + 1) := Int.mul_le_mul_of_nonneg_right y (by omega)
      show 0 ≤ F a - F 0
      split at k <;> omega) 0 (by omega)
    have := N 0
    simp at h
    omega
  refine ⟨?_, fun a ha => ?_, fun a ha => ?_, fun i j hi hj f => ?_, fun x hx h0 a ha => ?_⟩
  · rw [bestV, E 0 (by omega), Z]
  · rw [bestV, E a ha]
    exact N a
  · exact cur_bd hn C rfl (fun j hj => by
      rw [pW_full h hm 0 j (by omega) hj]
      have f := low_fin h.closed j hj
      exact (cell_fin f (h.ok hm 0 j (by omega) hj)).2.2.2.2.1) (upper_rounds C rfl (upper_start C rfl) n) a ha
  · rw [bestV, E i hi, E j hj]
    exact K i j hi hj f
  · rw [bestV, E a ha]
    exact Lw x hx h0 a ha
/-- Small numbers on a small grid, in lowest terms. -/
theorem newT_small {u g : Int} (u0 : 0 ≤ u) (u1 : u ≤ 4611686018427387904) (g0 : 1 ≤ g) (g1 : g ≤ 9) : (newT u g).2.2 = 0 ∧ okR (newT u g).1 (newT u g).2.1 = true ∧ (newT u g).1 * g = u * (newT u g).2.1 ∧ 0 < (newT u g).2.1 ∧ (newT u g).2.1 ∣ g ∧ I64 (newT u g).1 ∧ I64 (newT u g).2.1 := by
  have su : sz u = u := by unfold sz; rw [if_neg (by omega)]
  have G0 := gcdI_pos u g u0 (by omega)
  obtain ⟨hx, hy⟩ := gcdI_dvd u g u0 (by omega)
  have px : 0 ≤ u / gcdI u g := Int.ediv_nonneg u0 (by omega)
  have py := Int.ediv_pos_of_pos_of_dvd (show 0 < g by omega) (Int.le_of_lt G0) hy
  have cc := co_div u0 (show 0 < g by omega)
  have cx := Int.ediv_mul_cancel hx
  have cy := Int.ediv_mul_cancel hy
  have lx : u / gcdI u g ≤ u := Int.ediv_le_self _ u0
  have ly : g / gcdI u g ≤ g := Int.ediv_le_self _ (by omega)
  have sx : sz (u / gcdI u g) = u / gcdI u g := by unfold sz; rw [if_neg (by omega)]
  have rr : rightR (u / gcdI u g) (g / gcdI u g) = true := right_iff.2 ⟨py, by rw [sx]; exact cc⟩
  have ee : u / gcdI u g * g = u * (g / gcdI u g) := by
    generalize gcdI u g = G at *
    generalize u / G = x at *
    generalize g / G = y at *
    rw [← cx, ← cy, Int.mul_assoc, Int.mul_comm G y]
  have N : newT u g = (u / gcdI u g, g / gcdI u g, 0) := by
    unfold newT
    rw [if_neg (by omega), decide_eq_false (by omega), show sgn u false = u from rfl, show sz g = g by unfold sz; rw [if_neg (by omega)]]
    exact can_right (by omega) rr (by omega) (by omega) (by omega) ee
  rw [N]
  refine ⟨rfl, okR_iff.2 ⟨rr, px⟩, ee, py, ⟨gcdI u g, cy.symm⟩, ?_, ?_⟩
  · show -9223372036854775808 ≤ u / gcdI u g ∧ u / gcdI u g ≤ 9223372036854775807
    omega
  · show -9223372036854775808 ≤ g / gcdI u g ∧ g / gcdI u g ≤ 9223372036854775807
    omega
/-- Numbers on the grid, a clock ahead of them that is zero. -/
def aheadV (u : Nat → Int) : Val := fun a => if a = 0 then 0 else u (a - 1)
theorem ahead_eq {n : Nat} {u : Nat → Int} (hn : n ≤ 8) (hu : ∀ k, k < n → 0 ≤ u k ∧ u k ≤ 4611686018427387904) (a : Nat) (ha : a ≤ n) :
    (aheadL (gridL n u ((n : Int) + 1))).n a * ((n : Int) + 1) = aheadV u a * (aheadL (gridL n u ((n : Int) + 1))).d a ∧ 0 < (aheadL (gridL n u ((n : Int) + 1))).d a := by
  unfold aheadL aheadV
  by_cases h : a = 0
  · simp [h]
  · simp only [if_neg h]
    obtain ⟨h0, h1⟩ := hu (a - 1) (by omega)
    obtain ⟨_, _, e, p, _⟩ := newT_small (g := (n : Int) + 1) h0 h1 (by omega) (by omega)
    exact ⟨e, p⟩
theorem keep_grid {n : Nat} {c : Row} {u : Nat → Int} (hn : n ≤ 8) (hc : ∀ k, rightB (c k) = true) (hu : ∀ k, k < n → 0 ≤ u k ∧ u k ≤ 4611686018427387904) (k : Nat) (hk : k < (n + 1) * (n + 1)) :
    keepAt n c (gridL n u ((n : Int) + 1)) k = holdsB (c k) (aheadV u (k / (n + 1)) - aheadV u (k % (n + 1))) ((n : Int) + 1) := by
  unfold keepAt
  have hi : k / (n + 1) ≤ n := by have := (Nat.div_lt_iff_lt_mul (show 0 < n + 1 by omega)).2 hk; omega
  have hj : k % (n + 1) ≤ n := by have := Nat.mod_lt k (show 0 < n + 1 by omega); omega
  obtain ⟨ei, pi⟩ := ahead_eq hn hu _ hi
  obtain ⟨ej, pj⟩ := ahead_eq hn hu _ hj
  generalize k / (n + 1) = i at *
  generalize k % (n + 1) = j at *
  rw [keepB_holds _ _ _ _ _ pi pj (hc k)]
  refine holdsB_scale (Int.mul_pos pi pj) (by omega) ?_
  generalize (aheadL (gridL n u ((n : Int) + 1))).n i = a at *
  generalize (aheadL (gridL n u ((n : Int) + 1))).d i = b at *
  generalize (aheadL (gridL n u ((n : Int) + 1))).n j = a' at *
  generalize (aheadL (gridL n u ((n : Int) + 1))).d j = b' at *
  generalize aheadV u i = x at *
  generalize aheadV u j = y at *
  generalize (n : Int) + 1 = g at *
  have e1 : a * b' * g = x * (b * b') := by rw [Int.mul_assoc, Int.mul_comm b' g, ← Int.mul_assoc, ei, Int.mul_assoc]
  have e2 : a' * b * g = y * (b * b') := by rw [Int.mul_assoc, Int.mul_comm b g, ← Int.mul_assoc, ej, Int.mul_assoc, Int.mul_comm b' b]
  rw [Int.sub_mul, Int.sub_mul, e1, e2]
theorem hB_gW {b x g : Int} (hb : rightB b = true) (hg : 1 ≤ g) : holdsB b x g = true ↔ (¬ (if b = 2147483647 then opn else b) = opn → x ≤ gW (if b = 2147483647 then opn else b) g) := by
  by_cases h : b = 2147483647
  · subst h
    simp [hB_inf]
  · have hr : -536870912 ≤ b ∧ b ≤ 536870913 := by
      unfold rightB at hb
      have := of_decide_eq_true hb
      omega
    rw [if_neg h]
    have no : ¬ b = opn := by unfold opn; omega
    rw [hB_iff hr hg, holdsW_gW no]
    exact ⟨fun q _ => q, fun q => q no⟩
theorem in_grid {n m : Nat} {c : Row} {u : Nat → Int} (hn : n ≤ 8) (hm : m = (n + 1) * (n + 1)) (hc : ∀ k, rightB (c k) = true) (hu : ∀ k, k < n → 0 ≤ u k ∧ u k ≤ 4611686018427387904) :
    inB n m c (gridL n u ((n : Int) + 1)) = true ↔ gSol n (pW n c) ((n : Int) + 1) (aheadV u) := by
  have fb : fitB (gridL n u ((n : Int) + 1)) n = true := (fitB_iff hn).2 ⟨rfl, fun k hk => (newT_small (hu k hk).1 (hu k hk).2 (by omega) (by omega)).2.1⟩
  unfold inB allK
  rw [fb, Bool.true_and, List.all_eq_true]
  constructor
  · intro h i j hi hj f
    have hk : i * (n + 1) + j < (n + 1) * (n + 1) := pos_lt hi hj
    have k := h (i * (n + 1) + j) (List.mem_range.2 (by omega))
    rw [keep_grid hn hc hu _ hk] at k
    have e1 : (i * (n + 1) + j) / (n + 1) = i := by rw [Nat.mul_comm, Nat.mul_add_div (by omega), Nat.div_eq_of_lt (by omega)]; omega
    have e2 : (i * (n + 1) + j) % (n + 1) = j := by rw [Nat.mul_comm, Nat.mul_add_mod, Nat.mod_eq_of_lt (by omega)]
    rw [e1, e2] at k
    exact (hB_gW (hc _) (by omega)).1 k f
  · intro h k hk
    have hk := List.mem_range.1 hk
    rw [keep_grid hn hc hu _ (by omega)]
    have hi : k / (n + 1) ≤ n := by have := (Nat.div_lt_iff_lt_mul (show 0 < n + 1 by omega)).2 (show k < (n + 1) * (n + 1) by omega); omega
    have hj : k % (n + 1) ≤ n := by have := Nat.mod_lt k (show 0 < n + 1 by omega); omega
    refine (hB_gW (hc _) (by omega)).2 fun f => ?_
    have := h _ _ hi hj
    rw [pW_at] at this
    exact this f
theorem cmp_grid {x v g : Int} (hx : 0 ≤ x ∧ x ≤ 4611686018427387904) (hv : 0 ≤ v ∧ v ≤ 4611686018427387904) (g0 : 1 ≤ g) (g1 : g ≤ 9) (h : v ≤ x) : ¬ cmpV (newT x g).1 (newT x g).2.1 (newT v g).1 (newT v g).2.1 < 0 := by
  obtain ⟨_, _, e, p, _⟩ := newT_small hx.1 hx.2 g0 g1
  obtain ⟨_, _, e', p', _⟩ := newT_small hv.1 hv.2 g0 g1
  generalize (newT x g).1 = a at *
  generalize (newT x g).2.1 = b at *
  generalize (newT v g).1 = a' at *
  generalize (newT v g).2.1 = b' at *
  have e1 : a * b' * g = x * (b * b') := by rw [Int.mul_assoc, Int.mul_comm b' g, ← Int.mul_assoc, e, Int.mul_assoc]
  have e2 : a' * b * g = v * (b * b') := by rw [Int.mul_assoc, Int.mul_comm b g, ← Int.mul_assoc, e', Int.mul_assoc, Int.mul_comm b' b]
  have l : v * (b * b') ≤ x * (b * b') := Int.mul_le_mul_of_nonneg_right h (Int.le_of_lt (Int.mul_pos p p'))
  have k : a' * b ≤ a * b' := by
    rw [← e1, ← e2] at l
    exact Int.le_of_mul_le_mul_right l (by omega)
  unfold cmpV
  rw [if_neg (by omega)]
  split <;> omega
/-- What is in the zone on its grid is nowhere smaller. -/
theorem none_less {n m : Nat} {p : Mat} {c : Row} {x : Nat → Int} (hn : n ≤ 8) (hm : m = (n + 1) * (n + 1)) (hF : Full n m p c) (hc : ∀ k, rightB (c k) = true) (hx : ∀ k, 0 ≤ x k ∧ x k ≤ 65535) (hin : inB n m c (gridL n x ((n : Int) + 1)) = true) (k : Nat) (hk : k < n) :
    ¬ cmpV (newT (x k) ((n : Int) + 1)).1 (newT (x k) ((n : Int) + 1)).2.1 (newT (unitsF n c k) ((n : Int) + 1)).1 (newT (unitsF n c k) ((n : Int) + 1)).2.1 < 0 := by
  have B := best_of hn hF hm
  have S := (in_grid hn hm hc (fun k _ => ⟨(hx k).1, by have := (hx k).2; omega⟩)).1 hin
  have l := B.least _ S (fun a ha => by unfold aheadV; split; exact Int.le_refl _; exact (hx _).1) (k + 1) (by omega)
  have l : unitsF n c k ≤ x k := l
  have n0 : 0 ≤ unitsF n c k := B.nn (k + 1) (by omega)
  exact cmp_grid ⟨(hx k).1, by have := (hx k).2; omega⟩ ⟨n0, by have := (hx k).2; omega⟩ (by omega) (by omega) l
theorem units_bd {n m : Nat} {p : Mat} {c : Row} (hn : n ≤ 8) (hm : m = (n + 1) * (n + 1)) (hF : Full n m p c) (k : Nat) (hk : k < n) : 0 ≤ unitsF n c k ∧ unitsF n c k ≤ 4611686018427387904 := by
  have B := best_of hn hF hm
  have h1 : 0 ≤ unitsF n c k := B.nn (k + 1) (by omega)
  have h2 : unitsF n c k ≤ 4294967296 := B.le (k + 1) (by omega)
  omega
theorem least_inB {n m : Nat} {p : Mat} {c : Row} (hn : n ≤ 8) (hm : m = (n + 1) * (n + 1)) (hF : Full n m p c) (hc : ∀ k, rightB (c k) = true) : inB n m c (gridL n (unitsF n c) ((n : Int) + 1)) = true := by
  have B := best_of hn hF hm
  refine (in_grid hn hm hc (units_bd hn hm hF)).2 fun i j hi hj f => ?_
  have e : ∀ a, a ≤ n → aheadV (unitsF n c) a = bestV n c a := fun a ha => by
    unfold aheadV
    by_cases h : a = 0
    · rw [if_pos h, h, B.zero]
    · rw [if_neg h]
      show bestV n c (a - 1 + 1) = _
      rw [show a - 1 + 1 = a by omega]
  rw [e i hi, e j hj]
  exact B.sol i j hi hj f
end Go.Proofs.Ytohkbjkfpnhggaa
