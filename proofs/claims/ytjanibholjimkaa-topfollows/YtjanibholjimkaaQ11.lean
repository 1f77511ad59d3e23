/-
  The document's answer for layer 3: the empty zone.
-/
import Derived.Test.YtjanibholjimkaaQ10
import Derived.Deep.OwnRows
import Derived.Deep.RegionLaw
namespace Go.Proofs.Ytjanibholjimkaa
open Go.RowKit
set_option linter.unusedVariables false
set_option maxRecDepth 100000
/-! ### made -/
theorem step_own {P : Program} {ops : Array Oper} {o : Oper} {a : Act} {w : World} {K : Act → World → Prop} {Q : Exit → Act → World → Prop} {E : Prop} (hgd : o.guard = none) (s x : Operand) (t : TypeId)
    (ho : o.op = .call { callee := .builtin .append, args := #[s, x], argTypes := #[t, t] })
    (base : Nat) (e : TypeId) (i : TypeInfo) (z : Value) (size bytes : Nat) (ht : P.underlying t = some (.slice e)) (hi : P.info? e = some i) (hz : i.zero = some z)
    (hsize : i.size = size) (hby : i.bytes = bytes) (hzs : z.cells.size = size) (hsz : 0 < size)
    (v : Value) (n : Nat) (xs : List Value) (hs : a.eval s = v) (hown : w.ownsRow base e size v n xs)
    (ad : Addr) (m c : Nat) (news : List Value) (hx : a.eval x = .slice (some ad) m c) (hl : news.length = m * size) (hnews : ∀ j u, news[j]? = some u → w.cell? (ad.add j) = some u) (h1 : ∀ u ∈ news, u.oneCell' = true)
    (h63 : n + m ≤ maxLen) (hbytes : (n + m) * bytes ≤ 140737488355328) (hbase : base ≤ w.heap.size)
    (hK : ∀ v' w', w'.ownsRow base e size v' (n + m) (xs ++ news) → w.grownBy w' v.ownBlock → K (a.put o.dst v') w') :
    if Region.wanted o (yielded ops a.tmps) = true then Oper.wp P o a w K Q else E := by
  have hw : Region.wanted o (yielded ops a.tmps) = true := by simp [Region.wanted, hgd]
  rw [if_pos hw]
  exact wp_append_own w s x t ho base e i z size bytes ht hi hz hsize hby hzs hsz v n xs hs hown ad m c news hx hl hnews h1 h63 hbytes hbase fun v' w' h2 h3 _ => hK v' w' h2 h3
end Go.Proofs.Ytjanibholjimkaa

/-
  The program's zone of a row of bounds, and the document's, are one.
-/
namespace Go.Proofs.Ytjanibholjimkaa
open Go.RowKit
set_option linter.unusedVariables false
def tgV (a x : Int) : Int := if x = 2147483647 then a else min a x
theorem tgAll_at (n : Nat) (l : List Int) (r : Mat) (k : Nat) (hk : k ≤ (n + 1) * (n + 1)) (i j : Nat) :
    tgAll n l k r i j = if i ≤ n ∧ j ≤ n ∧ i * (n + 1) + j < k then tgV (r i j) (l.getD (i * (n + 1) + j) 0) else r i j := by
  induction k with
  | zero => simp [tgAll]
  | succ k ih =>
    have ih := ih (by omega)
    have d1 : k / (n + 1) ≤ n := by have := Nat.div_lt_of_lt_mul (show k < (n + 1) * (n + 1) by omega); omega
    have d2 : k % (n + 1) ≤ n := by have := Nat.mod_lt k (show 0 < n + 1 by omega); omega
    have d3 : k / (n + 1) * (n + 1) + k % (n + 1) = k := by rw [Nat.mul_comm]; exact Nat.div_add_mod k (n + 1)
    by_cases e : i = k / (n + 1) ∧ j = k % (n + 1)
    · obtain ⟨rfl, rfl⟩ := e
      rw [if_neg (by rw [d3]; omega)] at ih
      rw [if_pos ⟨d1, d2, by rw [d3]; omega⟩, d3]
      simp only [tgAll, tg, tgV]
      split
      · exact ih
      · simp [upd, ih]
    · have e2 : tgAll n l (k + 1) r i j = tgAll n l k r i j := by
        simp only [tgAll, tg]
        split
        · rfl
        · simp [upd, e]
      rw [e2, ih]
      congr 1
      apply propext
      constructor
      · rintro ⟨a, b, c⟩
        exact ⟨a, b, by omega⟩
      · rintro ⟨a, b, c⟩
        refine ⟨a, b, ?_⟩
        apply Classical.byContradiction
        intro q
        have : i * (n + 1) + j = k / (n + 1) * (n + 1) + k % (n + 1) := by omega
        exact e (pos_inj b d2 this)
end Go.Proofs.Ytjanibholjimkaa
