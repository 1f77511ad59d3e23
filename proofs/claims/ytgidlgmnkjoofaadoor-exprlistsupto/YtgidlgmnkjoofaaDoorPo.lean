/-
  Nodes appended to a row of the call's own.
-/
import Derived.Test.YtgidlgmnkjoofaaDoorPn
import Derived.Laws.OwnMore
namespace Go.Proofs.YtgidlgmnkjoofaaDoor
open Go.RowKit
set_option linter.unusedVariables false
theorem infoN : (Tryd.prog.info? 54).map (fun i => (i.zero, i.size, i.bytes)) = some (some (.agg #[.int .u8 0, .int .i64 0]), 2, 16) := by kernel_rfl
theorem nodeC_len (l : List Node) : (l.flatMap NodeC).length = l.length * 2 := flat_len NodeC 2 (fun _ => rfl) l
theorem nodeC_one {l : List Node} : ∀ u ∈ l.flatMap NodeC, u.oneCell' = true := by
  intro u hu
  obtain ⟨n, _, hn⟩ := List.mem_flatMap.1 hu
  simp only [NodeC, List.mem_cons, List.not_mem_nil, or_false] at hn
  rcases hn with rfl | rfl <;> rfl
set_option maxRecDepth 100000 in
/-- Nodes appended to a row of the call's own. -/
theorem app_nodes {ops : Array Oper} {rest : List Oper} {o : Oper} {a : Act} {Q : Exit → Act → World → Prop} {W : World} (hgd : o.guard = none) (s x : Operand)
    (ho : o.op = .call { callee := .builtin .append, args := #[s, x], argTypes := #[23, 23] }) (base : Nat) (v : Value) (n : Nat) (xs : List Value) (hs : a.eval s = v) (hown : W.ownsRow base 54 2 v n xs)
    (b off m c : Nat) (news : List Node) (hx : a.eval x = .slice (some ⟨b, off, none⟩) m c) (hm : news.length = m) (hrow : RowV W (some ⟨b, off, none⟩) (news.flatMap NodeC)) (hsmall : (n + m) * 16 ≤ 140737488355328) (hbase : base ≤ W.heap.size)
    (h : ∀ v' w', w'.ownsRow base 54 2 v' (n + m) (xs ++ news.flatMap NodeC) → Below base W w' → wpList Tryd.prog ops Q rest (a.put o.dst v') w') : wpList Tryd.prog ops Q (o :: rest) a W := by
  obtain ⟨i0, hi, hz0, hz1, hz2⟩ := info_parts infoN
  refine wpList_append_own _ hgd s x 23 ho base 54 i0 (.agg #[.int .u8 0, .int .i64 0]) 2 16 Tryd.underlying23 hi hz0 hz1 hz2 rfl (by decide) v n xs hs hown ⟨b, off, none⟩ m c (news.flatMap NodeC) hx (by rw [nodeC_len, hm]) ?_ nodeC_one (by simp only [maxLen]; omega) hsmall hbase ?_
  · intro j u q
    obtain ⟨b', off', e, hc⟩ := hrow j u q
    injection e with e
    injection e with e1 e2
    subst e1 e2
    by_cases z : j = 0
    · subst z; simpa [Addr.add] using hc
    · simpa [Addr.add, z] using hc
  · intro v' w' h1 h2 _
    exact h v' w' h1 ((Below.refl base W).grown h2 hbase (fun k e => (hown.lt k e).1))
end Go.Proofs.YtgidlgmnkjoofaaDoor
