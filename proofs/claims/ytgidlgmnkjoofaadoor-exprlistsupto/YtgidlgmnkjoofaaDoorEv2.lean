/-
  The document's with.
-/
import Derived.Test.YtgidlgmnkjoofaaDoorEv1
import Derived.Test.YtgidlgmnkjoofaaDoorAo0
import Derived.Laws.AppendOwnNone
namespace Go.Proofs.YtgidlgmnkjoofaaDoor
open Go.RowKit
set_option linter.unusedVariables false
set_option maxRecDepth 100000
theorem with_end : ∀ (l : List Int) (n : Int), (∀ k (h : k < l.length), l[k] < n) → withI l n = l ++ [n]
  | [], n, _ => rfl
  | a :: l, n, h => by
    unfold withI
    rw [if_pos (by have := h 0 (by simp); simpa using this), with_end l n (fun k hk => by have := h (k + 1) (by simpa using hk); simpa using this)]
    rfl
theorem with_at : ∀ (l : List Int) (n : Int) (i : Nat) (hi : i < l.length), (∀ k (h : k < i), l[k]'(Nat.lt_trans h hi) < n) → ¬ l[i] < n → withI l n = l.take i ++ n :: l.drop (if l[i] = n then i + 1 else i)
  | [], n, i, hi, _, _ => absurd hi (by simp)
  | a :: l, n, 0, hi, _, h => by
    have h' : ¬ a < n := by simpa using h
    unfold withI
    rw [if_neg h']
    simp only [List.getElem_cons_zero, List.take_zero, List.nil_append]
    by_cases c : a = n
    · rw [if_pos c, if_pos c]; rfl
    · rw [if_neg c, if_neg c]; rfl
  | a :: l, n, i + 1, hi, hb, h => by
    unfold withI
    have h0 : a < n := by have := hb 0 (by omega); simpa using this
    rw [if_pos h0, with_at l n i (by simpa using hi) (fun k hk => by have := hb (k + 1) (by omega); simpa using this) (by simpa using h)]
    simp only [List.getElem_cons_succ, List.take_succ_cons, List.cons_append]
    by_cases c : l[i]'(by simpa using hi) = n
    · rw [if_pos c, if_pos c]; rfl
    · rw [if_neg c, if_neg c]; rfl
/-- Numbers appended to a row of the call's own. -/
theorem app_ints {ops : Array Oper} {rest : List Oper} {o : Oper} {a : Act} {Q : Exit → Act → World → Prop} {W : World} (hgd : o.guard = none) (s x : Operand)
    (ho : o.op = .call { callee := .builtin .append, args := #[s, x], argTypes := #[26, 26] }) (base : Nat) (v : Value) (n : Nat) (xs : List Value) (hs : a.eval s = v) (hown : W.ownsRow base 3 1 v n xs)
    (b off m c : Nat) (news : List Int) (hx : a.eval x = .slice (some ⟨b, off, none⟩) m c) (hm : news.length = m) (hrow : ∀ j (h : j < news.length), W.cell? ⟨b, off + j, none⟩ = some (.int .i64 news[j])) (hsmall : (n + m) * 8 ≤ 140737488355328) (hbase : base ≤ W.heap.size)
    (h : ∀ v' w', w'.ownsRow base 3 1 v' (n + m) (xs ++ news.map (Value.int .i64)) → Below base W w' → wpList Tryd.prog ops Q rest (a.put o.dst v') w') : wpList Tryd.prog ops Q (o :: rest) a W := by
  obtain ⟨i0, hi, hz0, hz1, hz2⟩ := info_parts infoI
  refine wpList_append_own _ hgd s x 26 ho base 3 i0 (.int .i64 0) 1 8 Tryd.underlying26 hi hz0 hz1 hz2 rfl (by decide) v n xs hs hown ⟨b, off, none⟩ m c (news.map (Value.int .i64)) hx (by rw [List.length_map, hm]; omega) ?_ (fun u hu => by obtain ⟨z, -, rfl⟩ := List.mem_map.1 hu; rfl) (by simp only [maxLen]; omega) hsmall hbase ?_
  · intro j u q
    have hj : j < news.length := by
      have := (List.getElem?_eq_some_iff.1 q).1
      simpa using this
    rw [List.getElem?_map, List.getElem?_eq_getElem hj] at q
    injection q with q
    subst q
    by_cases z : j = 0
    · subst z; simp [Addr.add]
    · simp [Addr.add, z]
  · intro v' w' h1 h2 _
    exact h v' w' h1 ((Below.refl base W).grown h2 hbase (fun k e => (hown.lt k e).1))
/-- A list of numbers behind a slice's address. -/
def ZsAt (w : World) (ad : Option Addr) (l : List Int) : Prop := ∀ k (h : k < l.length), ∃ b off, ad = some ⟨b, off, none⟩ ∧ w.cell? ⟨b, off + k, none⟩ = some (.int .i64 l[k])
theorem ZsAt.later {w w' : World} {ad : Option Addr} {l : List Int} (h : ZsAt w ad l) (hb : Below w.heap.size w w') : ZsAt w' ad l := fun k hk => by
  obtain ⟨b, off, e, c⟩ := h k hk
  exact ⟨b, off, e, kc _ _ hb c⟩
set_option maxHeartbeats 4000000 in
theorem with_any (ad : Option Addr) (cap : Nat) (l : List Int) (z : Int) (w : World) (hR : ZsAt w ad l) (hl : l.length ≤ 1000000000) (hc : l.length ≤ cap) (hA : (ad = none ∧ l.length = 0 ∧ cap = 0) ∨ ∃ b off, ad = some ⟨b, off, none⟩) :
    Calls Tryd.prog 21 #[.slice ad l.length cap, .int .i64 z] w fun e w' => ∃ v, e = .returned v ∧ OwnZ w' w.heap.size v (withI l z) ∧ Below w.heap.size w w' := by
  have HR := hideR hR
  have HA := hideR hA
  clear hR hA
  obtain ⟨n, hn⟩ : ∃ n, l.length = n := ⟨_, rfl⟩
  rw [hn] at hl hc ⊢
  have HL := hideR hn
  clear hn
  go_enter Tryd.func21, Tryd.ntmps21
  go_wp2_with fail
  go_loopw [5, 6] (fun out i wr => ∃ (k : Nat) (v : Value), k ≤ n ∧ out = v ∧ i = .int .i64 (k : Int) ∧ Hid ((OwnZ wr w.heap.size v (l.take k) ∧ Below w.heap.size w wr) ∧ ∀ t (h : t < l.length), t < k → l[t] < z)) (fun _ i _ => n - (intOf i).toNat)
  case atStart => exact ⟨0, _, by omega, rfl, rfl, ⟨World.ownsRow_nil _ _ _ _, Below.refl _ _⟩, fun t _ h => absurd h (by omega)⟩
  case round =>
    obtain ⟨k, v, hk, hv, rfl, E⟩ := hrel
    replace hv := hv.symm
    subst hv
    have k0 : (0 : Int) ≤ (k : Int) := by omega
    have SZ := hideR E.out.1.2.size
    have LT : Hid ((l.take k).length = k) := by
      show _ = _
      rw [List.length_take, HL.out]
      omega
    by_cases ck : k < n
    · have k1 : (k : Int) < (n : Int) := by omega
      have kl : k < l.length := by rw [HL.out]; exact ck
      obtain ⟨b, off, rfl, c0⟩ := HR.out.later E.out.1.2 k kl
      have TK : Hid (l.take (k + 1) = l.take k ++ [l[k]]) := by
        show _ = _
        rw [List.take_add_one, List.getElem?_eq_getElem kl]
        rfl
      obtain ⟨y, hy⟩ : ∃ y, l[k] = y := ⟨_, rfl⟩
      rw [hy] at c0 TK
      have HY := hideR hy
      clear hy
      by_cases cy : y < z
      · go_wp2_with (at_builtin; refine app_int rfl _ _ rfl w.heap.size _ _ _ rfl (E.out.1.1.alloc _) wr.heap.size 1 y rfl (by simp [go_sem]) (by rw [LT.out]; omega) (by have := SZ.out; simp; omega) ?_; intro v' w3 hw hb; have O1 := hideR hw; have B2 := hideR ((E.out.1.2.alloc SZ.out _).trans hb); clear hw hb)
        go_roundw
        case rel => exact ⟨k + 1, _, by omega, rfl, by go_num, ⟨own_ext O1.out (by rw [TK.out]; simp) (by rw [TK.out]; simp), B2.out⟩, fun t h ht => by
          by_cases e : t = k
          · subst e; rw [HY.out]; exact cy
          · exact E.out.2 t h (by omega)⟩
        case measure => first | (simp [intOf]; done) | (simp [intOf]; omega)
      · have NZ : ¬ y < z := cy
        have WA := hideR (with_at l z k kl (fun t ht => E.out.2 t (by omega) ht) (by rw [HY.out]; exact cy))
        rw [HY.out] at WA
        by_cases cz : y = z
        · subst cz
          have y0 : ¬ y < y := by omega
          have WI := hideR WA.out
          rw [if_pos rfl] at WI
          clear WA
          by_cases cc : cap = k + 1
          · subst cc
            obtain rfl : n = k + 1 := by omega
            have DZ : l.drop (k + 1) = [] := List.drop_eq_nil_iff.2 (by rw [HL.out]; exact Nat.le_refl _)
            rw [DZ] at WI
            go_wp2_with (at_builtin; first
              | (refine app_int rfl _ _ rfl w.heap.size _ _ _ rfl (E.out.1.1.alloc _) wr.heap.size 1 y rfl (by simp [go_sem]) (by rw [LT.out]; omega) (by have := SZ.out; simp; omega) ?_; intro v' w3 hw hb; have O1 := hideR hw; have B2 := hideR ((E.out.1.2.alloc SZ.out _).trans hb); obtain ⟨b', off', e', d0⟩ := HR.out.later B2.out k kl; injection e' with e'; injection e' with e1 e2; subst e1 e2; rw [HY.out] at d0; clear hw hb)
              | (refine app_ints rfl _ _ rfl w.heap.size _ _ _ rfl O1.out b off 0 0 [] rfl rfl (fun j hj => absurd hj (by simp)) (by rw [LT.out]; omega) B2.out.size ?_; intro v4 w4 hw hb; have O3 := hideR hw; have B3 := hideR (B2.out.trans hb); clear hw hb))
            go_ret
            exact ⟨_, rfl, own_ext O3.out (by rw [WI.out]; simp) (by rw [WI.out]; simp), B3.out⟩
          · have c3 : ¬ k + 1 = cap := by omega
            have c4 : ¬ cap - (k + 1) = 0 := by omega
            go_wp2_with (at_builtin; first
              | (refine app_int rfl _ _ rfl w.heap.size _ _ _ rfl (E.out.1.1.alloc _) wr.heap.size 1 y rfl (by simp [go_sem]) (by rw [LT.out]; omega) (by have := SZ.out; simp; omega) ?_; intro v' w3 hw hb; have O1 := hideR hw; have B2 := hideR ((E.out.1.2.alloc SZ.out _).trans hb); obtain ⟨b', off', e', d0⟩ := HR.out.later B2.out k kl; injection e' with e'; injection e' with e1 e2; subst e1 e2; rw [HY.out] at d0; clear hw hb)
              | (refine app_ints rfl _ _ rfl w.heap.size _ _ _ rfl O1.out b _ (n - (k + 1)) _ (l.drop (k + 1)) rfl (by rw [List.length_drop, HL.out]) (fun j hj => ?_) (by rw [LT.out]; omega) B2.out.size ?_
                 · rw [List.length_drop, HL.out] at hj
                   first
                   | (exfalso; omega)
                   | (obtain ⟨b2, off2, e2, d2⟩ := HR.out.later B2.out ((k + 1) + j) (by rw [HL.out]; omega)
                      injection e2 with e2
                      injection e2 with e3 e4
                      subst e3 e4
                      rw [List.getElem_drop]
                      simpa [Nat.add_assoc] using d2)
                 intro v4 w4 hw hb; have O3 := hideR hw; have B3 := hideR (B2.out.trans hb); clear hw hb))
            all_goals
              go_ret
              exact ⟨_, rfl, own_ext O3.out (by rw [WI.out]; simp [List.length_drop, HL.out]; omega) (by rw [WI.out]; simp), B3.out⟩
        · have zy : ¬ y = z := cz
          have z2 : (y == z) = false := by simpa using cz
          have WI := hideR WA.out
          rw [if_neg cz] at WI
          clear WA
          have c4 : ¬ cap - k = 0 := by omega
          have c5 : ¬ cap = k := by omega
          go_wp2_with (at_builtin; first
            | (refine app_int rfl _ _ rfl w.heap.size _ _ _ rfl (E.out.1.1.alloc _) wr.heap.size 1 z rfl (by simp [go_sem]) (by rw [LT.out]; omega) (by have := SZ.out; simp; omega) ?_; intro v' w3 hw hb; have O1 := hideR hw; have B2 := hideR ((E.out.1.2.alloc SZ.out _).trans hb); obtain ⟨b', off', e', d0⟩ := HR.out.later B2.out k kl; injection e' with e'; injection e' with e1 e2; subst e1 e2; rw [HY.out] at d0; clear hw hb)
            | (refine app_ints rfl _ _ rfl w.heap.size _ _ _ rfl O1.out b _ (n - k) _ (l.drop k) rfl (by rw [List.length_drop, HL.out]) (fun j hj => ?_) (by rw [LT.out]; omega) B2.out.size ?_
               · rw [List.length_drop, HL.out] at hj
                 first
                 | (exfalso; omega)
                 | (obtain ⟨b2, off2, e2, d2⟩ := HR.out.later B2.out (k + j) (by rw [HL.out]; omega)
                    injection e2 with e2
                    injection e2 with e3 e4
                    subst e3 e4
                    rw [List.getElem_drop]
                    simpa [Nat.add_assoc] using d2)
               intro v4 w4 hw hb; have O3 := hideR hw; have B3 := hideR (B2.out.trans hb); clear hw hb))
          all_goals
            go_ret
            exact ⟨_, rfl, own_ext O3.out (by rw [WI.out]; simp [List.length_drop, HL.out]; omega) (by rw [WI.out]; simp), B3.out⟩
    · have k1 : ¬ (k : Int) < (n : Int) := by omega
      obtain rfl : k = n := by omega
      have WI := hideR (with_end l z (fun t ht => E.out.2 t ht (by rw [HL.out] at ht; exact ht)))
      have TL : l.take k = l := List.take_of_length_le (by rw [HL.out]; exact Nat.le_refl _)
      rw [TL] at E LT
      rcases HA.out with ⟨rfl, q1, rfl⟩ | ⟨b, off, rfl⟩
      · obtain rfl : k = 0 := by omega
        have L0 : l = [] := List.eq_nil_of_length_eq_zero q1
        subst L0
        clear HR HA
        go_wp2_with (at_builtin; first
          | (refine app_int rfl _ _ rfl w.heap.size _ _ _ rfl (E.out.1.1.alloc _) wr.heap.size 1 z rfl (by simp [go_sem]) (by rw [LT.out]; omega) (by have := SZ.out; simp; omega) ?_; intro v' w3 hw hb; have O1 := hideR hw; have B2 := hideR ((E.out.1.2.alloc SZ.out _).trans hb); clear hw hb; obtain ⟨i9, hi9, -, -, -⟩ := info_parts infoI)
          | (refine wpList_append_own_none rfl _ _ 26 rfl w.heap.size 3 i9 1 Tryd.underlying26 hi9 _ _ _ rfl O1.out rfl ?_))
        go_ret
        exact ⟨_, rfl, own_ext O1.out (by rw [WI.out]; rfl) (by rw [WI.out]; rfl), B2.out⟩
      · by_cases cc : cap = k
        · subst cc
          go_wp2_with (at_builtin; first
            | (refine app_int rfl _ _ rfl w.heap.size _ _ _ rfl (E.out.1.1.alloc _) wr.heap.size 1 z rfl (by simp [go_sem]) (by rw [LT.out]; omega) (by have := SZ.out; simp; omega) ?_; intro v' w3 hw hb; have O1 := hideR hw; have B2 := hideR ((E.out.1.2.alloc SZ.out _).trans hb); clear hw hb)
            | (refine app_ints rfl _ _ rfl w.heap.size _ _ _ rfl O1.out b _ 0 _ [] rfl rfl (fun j hj => absurd hj (by simp)) (by rw [LT.out]; omega) B2.out.size ?_; intro v4 w4 hw hb; have O3 := hideR hw; have B3 := hideR (B2.out.trans hb); clear hw hb))
          go_ret
          exact ⟨_, rfl, own_ext O3.out (by rw [WI.out]; simp) (by rw [WI.out]; simp), B3.out⟩
        · have c4 : ¬ cap - k = 0 := by omega
          have c5 : ¬ k = cap := by omega
          go_wp2_with (at_builtin; first
            | (refine app_int rfl _ _ rfl w.heap.size _ _ _ rfl (E.out.1.1.alloc _) wr.heap.size 1 z rfl (by simp [go_sem]) (by rw [LT.out]; omega) (by have := SZ.out; simp; omega) ?_; intro v' w3 hw hb; have O1 := hideR hw; have B2 := hideR ((E.out.1.2.alloc SZ.out _).trans hb); clear hw hb)
            | (refine app_ints rfl _ _ rfl w.heap.size _ _ _ rfl O1.out b _ 0 _ [] rfl rfl (fun j hj => absurd hj (by simp)) (by rw [LT.out]; omega) B2.out.size ?_; intro v4 w4 hw hb; have O3 := hideR hw; have B3 := hideR (B2.out.trans hb); clear hw hb))
          go_ret
          exact ⟨_, rfl, own_ext O3.out (by rw [WI.out]; simp) (by rw [WI.out]; simp), B3.out⟩
end Go.Proofs.YtgidlgmnkjoofaaDoor
