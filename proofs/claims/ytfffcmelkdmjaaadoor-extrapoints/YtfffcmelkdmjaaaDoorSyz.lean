/-
  What is said of a zone in which a clock is any: valuations that differ in it alone are all in it, or none is.
-/
import Derived.Test.YtfffcmelkdmjaaaDoorTgz
import Derived.Test.YtfffcmelkdmjaaaDoorFcz
import Derived.Test.YtfffcmelkdmjaaaDoorOuz
namespace Go.Proofs.YtfffcmelkdmjaaaDoor
open Go.RowKit
set_option linter.unusedVariables false
set_option maxRecDepth 100000
theorem holdsB_mono {b d d' g : Int} (h : holdsB b d g = true) (hd : d' ≤ d) : holdsB b d' g = true := by
  unfold holdsB at *
  simp only [Bool.or_eq_true, Bool.and_eq_true, decide_eq_true_eq] at *
  rcases h with h | ⟨h1, h2⟩
  · exact .inl h
  · refine .inr ⟨h1, ?_⟩
    split at h2
    · rename_i e; rw [if_pos e]; simp only [decide_eq_true_eq] at *; omega
    · rename_i e; rw [if_neg e]; simp only [decide_eq_true_eq] at *; omega
theorem holdsB_inf (d g : Int) : holdsB 2147483647 d g = true := by unfold holdsB; simp
theorem holdsB_one : holdsB 1 0 2 = true := by decide
theorem holdsB_zero : holdsB 0 0 2 = false := by decide
/-- The first K cells are kept by a valuation, in halves. -/
def inA (n : Nat) (c : Row) (V : Nat → Int) : Nat → Bool
  | 0 => true
  | K + 1 => inA n c V K && holdsB (c K) (V (K / (n + 1)) - V (K % (n + 1))) 2
theorem inA_iff {n : Nat} {c : Row} {V : Nat → Int} : ∀ K, inA n c V K = true ↔ ∀ k, k < K → holdsB (c k) (V (k / (n + 1)) - V (k % (n + 1))) 2 = true
  | 0 => ⟨fun _ k hk => by omega, fun _ => rfl⟩
  | K + 1 => by
    simp only [inA, Bool.and_eq_true, inA_iff K]
    constructor
    · rintro ⟨h1, h2⟩ k hk
      by_cases e : k = K
      · subst e; exact h2
      · exact h1 k (by omega)
    · intro h
      exact ⟨fun k hk => h k (by omega), h K (by omega)⟩
theorem in_half {n m : Nat} {c1 : Row} {q : Mat} {V V' : Nat → Int} (hm : m = (n + 1) * (n + 1)) (n1 : 1 ≤ n) (h : FullC n m (frP 1 q) c1) (v0 : V 0 = 0) (v0' : V' 0 = 0) (vp : 0 ≤ V' 1) (hv : ∀ i, ¬ i = 1 → V i = V' i) (hi : inA n c1 V m = true) : inA n c1 V' m = true := by
  rw [inA_iff] at *
  intro k hk
  have hj : k % (n + 1) ≤ n := by have := Nat.mod_lt k (show 0 < n + 1 by omega); omega
  have hi' : k / (n + 1) ≤ n := by rw [hm] at hk; have := Nat.div_lt_of_lt_mul hk; omega
  have e : k / (n + 1) * (n + 1) + k % (n + 1) = k := by rw [Nat.mul_comm]; exact Nat.div_add_mod k (n + 1)
  have at1 := h.at hm hi' hj
  have h0 := hi k hk
  have hz := hi (k / (n + 1) * (n + 1) + 0) (by rw [hm]; exact pos_lt hi' (by omega))
  rw [place_div (show 0 ≤ n by omega), place_mod (show 0 ≤ n by omega), h.at hm hi' (show 0 ≤ n by omega)] at hz
  rw [e] at at1
  rw [at1] at h0 ⊢
  generalize k / (n + 1) = i at *
  generalize k % (n + 1) = j at *
  by_cases ci : i = 1
  · subst ci
    rw [frP_x]
    by_cases cj : j = 1
    · subst cj
      rw [if_pos rfl, Int.sub_self]
      exact holdsB_one
    · rw [if_neg cj, narB_opn]
      exact holdsB_inf _ _
  · by_cases cj : j = 1
    · subst cj
      rw [frP_c _ ci]
      rw [frP_o _ ci (by omega), v0, hv i ci] at hz
      exact holdsB_mono hz (by omega)
    · rw [← hv i ci, ← hv j cj]
      exact h0
/-- In, or not in, whatever the first clock has. -/
theorem in_same {n m : Nat} {c c1 : Row} {V V' : Nat → Int} (hm : m = (n + 1) * (n + 1)) (n1 : 1 ≤ n) (zc : ZC n m c) (h0 : c = (fun _ => 0) → c1 = fun _ => 0) (h1 : ∀ p, FullC n m p c → FullC n m (frP 1 p) c1) (v0 : V 0 = 0) (v0' : V' 0 = 0) (vp : 0 ≤ V 1) (vp' : 0 ≤ V' 1) (hv : ∀ i, ¬ i = 1 → V i = V' i) : inA n c1 V m = inA n c1 V' m := by
  rcases zc with rfl | ⟨p, hp⟩
  · rw [h0 rfl]
    have mp : 0 < m := by rw [hm]; exact Nat.mul_pos (by omega) (by omega)
    have key : ∀ U : Nat → Int, U 0 = 0 → inA n (fun _ => 0) U m = false := fun U u0 => by
      cases e : inA n (fun _ => 0) U m with
      | false => rfl
      | true =>
        have := (inA_iff m).1 e 0 mp
        rw [Nat.zero_div, Nat.zero_mod, u0] at this
        exact absurd this (by decide)
    rw [key V v0, key V' v0']
  · have F := h1 p hp
    rw [Bool.eq_iff_iff]
    exact ⟨fun h => in_half hm n1 F v0 v0' vp' hv h, fun h => in_half hm n1 F v0' v0 vp (fun i hi => (hv i hi).symm) h⟩
/-- What is asked of clock i: half numbers; and with another number for the first clock. -/
def V0 (l : List Int) (i : Nat) : Int := if 1 ≤ i ∧ i ≤ l.length then l.getD (i - 1) 0 else 0
def V1 (l l' : List Int) (i : Nat) : Int := if i = 1 ∧ 0 < l'.length then l'.getD 0 0 else V0 l i
def VK (l l' : List Int) (K i : Nat) : Int := if K = 0 then V0 l i else V1 l l' i
theorem mem_bd {l : List Int} (h : ∀ z ∈ l, (Lit.int .u32 z).wf = true) (j : Nat) : 0 ≤ l.getD j 0 ∧ l.getD j 0 ≤ 4294967295 := by
  by_cases hj : j < l.length
  · have e : l.getD j 0 = l[j] := by simp [List.getD, hj]
    rw [e]
    exact bounds_u32 (h _ (List.getElem_mem hj))
  · have e : l.getD j 0 = 0 := by simp [List.getD, Nat.not_lt.1 hj]
    rw [e]; omega
theorem V0_bd {l : List Int} (h : ∀ z ∈ l, (Lit.int .u32 z).wf = true) (i : Nat) : 0 ≤ V0 l i ∧ V0 l i ≤ 4294967295 := by
  unfold V0
  split
  · exact mem_bd h _
  · omega
theorem VK_bd {l l' : List Int} (h : ∀ z ∈ l, (Lit.int .u32 z).wf = true) (h' : ∀ z ∈ l', (Lit.int .u32 z).wf = true) (K i : Nat) : 0 ≤ VK l l' K i ∧ VK l l' K i ≤ 4294967295 := by
  unfold VK V1
  split
  · exact V0_bd h i
  · split
    · exact mem_bd h' 0
    · exact V0_bd h i
theorem VK_zero (l l' : List Int) (K : Nat) : VK l l' K 0 = 0 := by
  unfold VK V1 V0
  split
  · rw [if_neg (by omega)]
  · rw [if_neg (by omega), if_neg (by omega)]
theorem VK_off (l l' : List Int) (K i : Nat) (h : ¬ i = 1) : VK l l' K i = VK l l' 0 i := by
  unfold VK V1
  rw [if_pos rfl]
  split
  · rfl
  · rw [if_neg (fun e => h e.1)]
/-- The valuation while it is filled. -/
def vF (l : List Int) (I j : Nat) : Int := if j < I then V0 l j else 0
theorem info_i64s : (Tryd.prog.info? 2).map (fun i => (i.zero, i.size, i.bytes)) = some (some (.int .i64 0), 1, 8) := by kernel_rfl
theorem make_i64s (N : Nat) (hb : 8 * N ≤ 281474976710656) (w : World) :
    (Instr.makeSlice 65 (.int .i64 (N : Int)) (.int .i64 (N : Int))).run Tryd.prog w = .ok (.slice (some ⟨w.heap.size, 0, none⟩) N N) (w.alloc (.cells (madeCells #[.int .i64 0] N) 2)) := by
  obtain ⟨i, hi, hzz⟩ := Option.map_eq_some_iff.1 info_i64s
  simp only [Prod.mk.injEq] at hzz
  obtain ⟨hz, hs, hb'⟩ := hzz
  have hB : (i.bytes : Int) * (N : Int) ≤ 281474976710656 := by rw [hb']; omega
  have hr := run_make (P := Tryd.prog) w 65 2 i _ Tryd.underlying65 hi hz .i64 .i64 N N (by omega) (Int.le_refl _) hB (by omega)
  simp only [Int.toNat_natCast, hs, Nat.mul_one] at hr
  exact hr
end Go.Proofs.YtfffcmelkdmjaaaDoor
