/-
  Two rows of the call's own, one appended to while the other stays; expr.All.
-/
import Derived.Test.YtgidlgmnkjoofaaDoorPo
import Derived.Maps.AppendAt
namespace Go.Proofs.YtgidlgmnkjoofaaDoor
open Go.RowKit
set_option linter.unusedVariables false
/-- Two rows lie in blocks of their own. -/
def Apart (v1 v2 : Value) : Prop := ∀ g, v1.ownBlock = some g → v2.ownBlock = some g → False
theorem Apart.symm {v1 v2 : Value} (h : Apart v1 v2) : Apart v2 v1 := fun g a b => h g b a
theorem Apart.kept {W W' : World} {base : Nat} {e : TypeId} {size n : Nat} {v v2 : Value} {xs : List Value} (h : Apart v v2) (ho : W.ownsRow base e size v2 n xs) (hg : W.grownBy W' v.ownBlock) : W'.ownsRow base e size v2 n xs := by
  refine ho.kept hg ?_
  cases c : v2.ownBlock with
  | none => exact .inl rfl
  | some g => exact .inr fun q => h g q.symm c
theorem Apart.after {W : World} {base : Nat} {e : TypeId} {size n : Nat} {v v' v2 : Value} {xs : List Value} (h : Apart v v2) (ho : W.ownsRow base e size v2 n xs) (hv : v'.ownBlock = v.ownBlock ∨ v'.ownBlock = some W.heap.size) : Apart v' v2 := by
  intro g a b
  rcases hv with q | q
  · exact h g (q ▸ a) b
  · have := (ho.lt g b).2
    rw [q] at a
    injection a with a
    omega
set_option maxRecDepth 100000 in
/-- Nodes appended to a row of the call's own, and where it lies then. -/
theorem app_nodes2 {ops : Array Oper} {rest : List Oper} {o : Oper} {a : Act} {Q : Exit → Act → World → Prop} {W : World} (hgd : o.guard = none) (s x : Operand)
    (ho : o.op = .call { callee := .builtin .append, args := #[s, x], argTypes := #[23, 23] }) (base : Nat) (v : Value) (n : Nat) (xs : List Value) (hs : a.eval s = v) (hown : W.ownsRow base 54 2 v n xs)
    (b off m c : Nat) (news : List Node) (hx : a.eval x = .slice (some ⟨b, off, none⟩) m c) (hm : news.length = m) (hrow : RowV W (some ⟨b, off, none⟩) (news.flatMap NodeC)) (hsmall : (n + m) * 16 ≤ 140737488355328) (hbase : base ≤ W.heap.size)
    (h : ∀ v' w', w'.ownsRow base 54 2 v' (n + m) (xs ++ news.flatMap NodeC) → Below base W w' → W.grownBy w' v.ownBlock → (v'.ownBlock = v.ownBlock ∨ v'.ownBlock = some W.heap.size) → wpList Tryd.prog ops Q rest (a.put o.dst v') w') : wpList Tryd.prog ops Q (o :: rest) a W := by
  obtain ⟨i0, hi, hz0, hz1, hz2⟩ := info_parts infoN
  refine wpList_append_own_at _ hgd s x 23 ho base 54 i0 (.agg #[.int .u8 0, .int .i64 0]) 2 16 Tryd.underlying23 hi hz0 hz1 hz2 rfl (by decide) v n xs hs hown ⟨b, off, none⟩ m c (news.flatMap NodeC) hx (by rw [nodeC_len, hm]) ?_ nodeC_one (by simp only [maxLen]; omega) hsmall hbase ?_
  · intro j u q
    obtain ⟨b', off', e, hc⟩ := hrow j u q
    injection e with e
    injection e with e1 e2
    subst e1 e2
    by_cases z : j = 0
    · subst z; simpa [Addr.add] using hc
    · simpa [Addr.add, z] using hc
  · intro v' w' h1 h2 _ h4
    exact h v' w' h1 ((Below.refl base W).grown h2 hbase (fun k e => (hown.lt k e).1)) h2 h4
/-- A slice of nodes as a value, and its nodes. -/
abbrev Sl := (Option Addr × Nat) × List Node
abbrev SlC (e : Sl) : List Value := [.slice e.1.1 e.2.length e.1.2]
/-- All joined by And: the lists that are not empty. -/
def allN (xs : List (List Node)) : Nat := (xs.filter (fun e => !e.isEmpty)).length
def allL (xs : List (List Node)) : List Node := List.replicate (allN xs - 1) (13, 0) ++ xs.flatten
theorem allN_nil : allN [] = 0 := rfl
theorem allN_empty (xs : List (List Node)) (e : List Node) (h : e = []) : allN (xs ++ [e]) = allN xs := by
  subst h
  simp [allN]
theorem allN_more (xs : List (List Node)) (e : List Node) (h : e ≠ []) : allN (xs ++ [e]) = allN xs + 1 := by
  cases e with
  | nil => exact absurd rfl h
  | cons a l => simp [allN]
theorem allN_zero (xs : List (List Node)) : allN xs = 0 ↔ xs.flatten.length = 0 := by
  induction xs with
  | nil => simp [allN]
  | cons a l ih =>
    cases a with
    | nil => simpa [allN] using ih
    | cons b r => simp [allN]
theorem allN_le (xs : List (List Node)) : allN xs ≤ xs.length := List.length_filter_le _ _
theorem own_ext {W : World} {base : Nat} {e : TypeId} {size n n' : Nat} {v : Value} {xs xs' : List Value} (h : W.ownsRow base e size v n xs) (hn : n = n') (hx : xs = xs') : W.ownsRow base e size v n' xs' := by subst hn hx; exact h
/-- What lies in memory when some lists have been gone through. -/
def AllSt (base : Nat) (w0 : World) (X : List (List Node)) (va vr : Value) (W : World) : Prop :=
  W.ownsRow base 54 2 va (allN X - 1) ((List.replicate (allN X - 1) (13, 0)).flatMap NodeC) ∧ W.ownsRow base 54 2 vr X.flatten.length (X.flatten.flatMap NodeC) ∧ Apart va vr ∧ Below base w0 W ∧ (X.flatten.length = 0 → va = .slice .none 0 0 ∧ vr = .slice .none 0 0)
theorem AllSt.none (w : World) : AllSt w.heap.size w [] (.slice .none 0 0) (.slice .none 0 0) w := ⟨World.ownsRow_nil _ _ _ _, World.ownsRow_nil _ _ _ _, fun g a b => (by cases a), Below.refl _ _, fun _ => ⟨rfl, rfl⟩⟩
theorem AllSt.empty {base : Nat} {w0 : World} {X : List (List Node)} {va vr : Value} {W : World} (h : AllSt base w0 X va vr W) : AllSt base w0 (X ++ [[]]) va vr W := by
  unfold AllSt at *
  rw [allN_empty X [] rfl, List.flatten_append]
  simpa using h
theorem AllSt.first {base : Nat} {w0 : World} {X : List (List Node)} {va vr v' : Value} {W W' : World} {e : List Node} (h : AllSt base w0 X va vr W) (hz : X.flatten.length = 0) (he : e ≠ []) (ho : W'.ownsRow base 54 2 v' (X.flatten.length + e.length) (X.flatten.flatMap NodeC ++ e.flatMap NodeC)) (hb : Below base W W') (hg : W.grownBy W' vr.ownBlock) (hv : v'.ownBlock = vr.ownBlock ∨ v'.ownBlock = some W.heap.size) : AllSt base w0 (X ++ [e]) va v' W' := by
  obtain ⟨h1, h2, h3, h4, h5⟩ := h
  have z := (allN_zero X).2 hz
  refine ⟨?_, ?_, (h3.symm.after h1 hv).symm, h4.trans hb, fun q => absurd q (by cases e with
    | nil => exact absurd rfl he
    | cons a l => simp)⟩
  · refine own_ext (h3.symm.kept h1 hg) ?_ ?_ <;> rw [allN_more X e he, z]
  · exact own_ext ho (by simp) (by simp)
theorem AllSt.more {base : Nat} {w0 : World} {X : List (List Node)} {va vr va' v' : Value} {W W1 W' : World} {e : List Node} (h : AllSt base w0 X va vr W) (hz : ¬ X.flatten.length = 0) (he : e ≠ [])
    (o1 : W1.ownsRow base 54 2 va' (allN X - 1 + 1) ((List.replicate (allN X - 1) (13, 0)).flatMap NodeC ++ [(13, 0)].flatMap NodeC)) (ap : Apart va' vr) (b1 : Below base w0 W1)
    (ho : W'.ownsRow base 54 2 v' (X.flatten.length + e.length) (X.flatten.flatMap NodeC ++ e.flatMap NodeC)) (hb : Below base W1 W') (hg : W1.grownBy W' vr.ownBlock) (hv : v'.ownBlock = vr.ownBlock ∨ v'.ownBlock = some W1.heap.size) : AllSt base w0 (X ++ [e]) va' v' W' := by
  have z : ¬ allN X = 0 := fun q => hz ((allN_zero X).1 q)
  refine ⟨?_, ?_, (ap.symm.after o1 hv).symm, b1.trans hb, fun q => absurd q (by cases e with
    | nil => exact absurd rfl he
    | cons a l => simp)⟩
  · refine own_ext (ap.symm.kept o1 hg) ?_ ?_
    · rw [allN_more X e he]; omega
    · rw [allN_more X e he, show allN X + 1 - 1 = (allN X - 1) + 1 by omega, List.replicate_succ', List.flatMap_append]
  · exact own_ext ho (by simp) (by simp)
theorem take_more (ls : List Sl) (j : Nat) (h : j < ls.length) : (ls.take (j + 1)).map (·.2) = (ls.take j).map (·.2) ++ [(ls[j]'h).2] := by
  rw [List.take_add_one, List.getElem?_eq_getElem h, List.map_append]
  rfl
theorem flat_take_le (ls : List Sl) (j : Nat) : ((ls.take j).map (·.2)).flatten.length ≤ (ls.map (·.2)).flatten.length := by
  have : ls.map (·.2) = (ls.take j).map (·.2) ++ (ls.drop j).map (·.2) := by rw [← List.map_append, List.take_append_drop]
  rw [this, List.flatten_append, List.length_append]
  omega
set_option maxRecDepth 100000 in
set_option maxHeartbeats 4000000 in
theorem all_any (ad : Option Addr) (cap : Nat) (ls : List Sl) (w : World) (hR : RowV w ad (ls.flatMap SlC)) (hN : ∀ e ∈ ls, RowV w e.1.1 (e.2.flatMap NodeC)) (hS : (ls.map (·.2)).flatten.length + ls.length ≤ 1000000000) :
    Calls Tryd.prog 5 #[.slice ad ls.length cap] w fun e w' => ∃ v, e = .returned v ∧ w'.ownsRow w.heap.size 54 2 v (allL (ls.map (·.2))).length ((allL (ls.map (·.2))).flatMap NodeC) ∧ Below w.heap.size w w' := by
  have HR := hideR hR
  have HN := hideR hN
  have HS := hideR hS
  clear hR hN hS
  generalize hn : ls.length = n at *
  have HL := hideR hn
  clear hn
  go_enter Tryd.func5, Tryd.ntmps5
  go_wp2_with fail
  go_loopw [3, 4, 9] (fun an re i wr => ∃ (j : Nat) (va vr : Value), j ≤ n ∧ an = va ∧ re = vr ∧ i = .int .i64 j ∧ Hid (AllSt w.heap.size w ((ls.take j).map (·.2)) va vr wr)) (fun _ _ i _ => n - (intOf i).toNat)
  case atStart => exact ⟨0, _, _, by omega, rfl, rfl, rfl, AllSt.none w⟩
  case round =>
    obtain ⟨j, va, vr, hj, hv1, hv2, rfl, E⟩ := hrel
    replace hv1 := hv1.symm
    subst hv1
    replace hv2 := hv2.symm
    subst hv2
    obtain ⟨adr, cr, rfl, hrr, _⟩ := own_rowV E.out.2.1
    have RR := hideR hrr
    clear hrr
    by_cases cj : j < n
    · have i1 : (j : Int) < (n : Int) := by omega
      have jl : j < ls.length := by rw [HL.out]; exact cj
      have nl : (n : Int) ≤ 1000000000 := by have := HS.out; omega
      have e1 : IntKind.i64.wrap ((j : Int) + 1) = (j : Int) + 1 := by rw [IntKind.wrap_i64]; omega
      obtain ⟨b, off, rfl, cc⟩ := rowV_at (s := 1) (fun _ => rfl) (HR.out.later E.out.2.2.2.1) (by decide) jl
      have x0 := cc 0 (by decide)
      simp only [SlC, List.getElem?_cons_zero, Nat.mul_one, Nat.add_zero] at x0
      clear cc
      have HE := hideR (HN.out _ (List.getElem_mem jl))
      have TK := hideR (take_more ls j jl)
      have FL := hideR (flat_take_le ls (j + 1))
      rw [TK.out] at FL
      have AN : Hid (allN ((ls.take j).map (·.2)) ≤ j) := Nat.le_trans (allN_le _) (by rw [List.length_map, List.length_take]; omega)
      generalize ls[j]'jl = el at *
      obtain ⟨⟨ea, ec⟩, el⟩ := el
      simp only at x0 HE TK FL
      generalize (ls.take j).map (·.2) = X at *
      generalize hq : X.flatten.length = q at *
      have HM := hideR hq
      have E2 := hideR (own_ext E.out.2.1 hq rfl)
      have xl : q + el.length ≤ 1000000000 := by
        have h1 := FL.out
        have := HS.out
        rw [List.flatten_append, List.length_append, List.flatten_cons, List.flatten_nil, List.append_nil, hq] at h1
        omega
      have an : allN X - 1 + 1 ≤ 1000000000 := by
        have := AN.out
        have := HS.out
        omega
      by_cases ce : el = []
      · subst ce
        go_wp2_with fail
        go_roundw
        case rel => exact ⟨j + 1, _, _, by omega, rfl, rfl, by go_num, by rw [TK.out]; exact E.out.empty⟩
        case measure => first | (simp [intOf]; done) | (simp [intOf]; omega)
      · have el0 : 0 < el.length := List.length_pos_iff.2 ce
        obtain ⟨eb, eo, rfl, _⟩ := rowV_at (s := 2) (fun _ => rfl) HE.out (by decide) el0
        have c1 : ¬ (el.length : Int) = 0 := by omega
        have c2 : ((el.length : Int) == 0) = false := by simpa using c1
        have XL := hideR xl
        have AL := hideR an
        clear xl an hq
        by_cases cz : q = 0
        · have d1 : ¬ (0 : Int) < (q : Int) := by omega
          go_wp2_with (at_builtin; refine app_nodes2 rfl _ _ rfl w.heap.size _ _ _ rfl E2.out eb eo el.length ec el rfl rfl (HE.out.later E.out.2.2.2.1) (by have := XL.out; omega) E.out.2.2.2.1.size ?_; intro v' w3 hw hb hg hv; have O1 := hideR (E.out.first (HM.out.trans cz) ce (by rw [HM.out]; exact hw) hb hg hv); clear hw hb hg hv)
          go_roundw
          case rel => exact ⟨j + 1, _, _, by omega, rfl, rfl, by go_num, by rw [TK.out]; exact O1.out⟩
          case measure => first | (simp [intOf]; done) | (simp [intOf]; omega)
        · have d1 : (0 : Int) < (q : Int) := by omega
          have SZ := hideR E.out.2.2.2.1.size
          go_wp2_with (at_builtin; first
            | (refine app_nodes2 rfl _ _ rfl w.heap.size _ _ _ rfl (E.out.1.alloc _) wr.heap.size 0 1 1 [(13, 0)] rfl rfl (rowV_new wr #[.int .u8 13, .int .i64 0] 54) (by have := AL.out; omega) (by have := SZ.out; simp; omega) ?_; intro va' w3 hw hb hg hv; have O1 := hideR hw; have AP := hideR (E.out.2.2.1.after (E2.out.alloc _) hv); have O2 := hideR (E.out.2.2.1.kept (E2.out.alloc _) hg); have B1 := hideR ((E.out.2.2.2.1.alloc SZ.out _).trans hb); clear hw hb hg hv)
            | (refine app_nodes2 rfl _ _ rfl w.heap.size _ _ _ rfl O2.out eb eo el.length ec el rfl rfl (HE.out.later B1.out) (by have := XL.out; omega) B1.out.size ?_; intro v' w4 hw hb hg hv; have O3 := hideR (E.out.more (fun z => cz (HM.out.symm.trans z)) ce O1.out AP.out B1.out (by rw [HM.out]; exact hw) hb hg hv); clear hw hb hg hv))
          go_roundw
          case rel => exact ⟨j + 1, _, _, by omega, rfl, rfl, by go_num, by rw [TK.out]; exact O3.out⟩
          case measure => first | (simp [intOf]; done) | (simp [intOf]; omega)
    · obtain rfl : j = n := by omega
      have tk : ls.take j = ls := List.take_of_length_le (by have := HL.out; omega)
      rw [tk] at E
      have LN : Hid ((allL (ls.map (·.2))).length = allN (ls.map (·.2)) - 1 + (ls.map (·.2)).flatten.length) := by
        show _ = _
        unfold allL
        rw [List.length_append, List.length_replicate]
      have FM : Hid ((allL (ls.map (·.2))).flatMap NodeC = (List.replicate (allN (ls.map (·.2)) - 1) (13, 0)).flatMap NodeC ++ (ls.map (·.2)).flatten.flatMap NodeC) := by
        show _ = _
        unfold allL
        rw [List.flatMap_append]
      have AN : Hid (allN (ls.map (·.2)) ≤ j) := Nat.le_trans (allN_le _) (by rw [List.length_map, HL.out]; exact Nat.le_refl _)
      rw [tk] at RR
      rw [tk]
      generalize hX : ls.map (·.2) = X at *
      have HX := hideR hX
      clear hX
      by_cases cz : X.flatten.length = 0
      · obtain ⟨q1, q2⟩ := E.out.2.2.2.2 cz
        have B1 := hideR E.out.2.2.2.1
        have z1 := (allN_zero X).2 cz
        have LZ : Hid ((allL X).length = 0) := by
          show _ = _
          rw [LN.out, z1, cz]
        have FZ : Hid ((allL X).flatMap NodeC = []) := by
          show _ = _
          rw [List.length_eq_zero_iff.1 LZ.out]
          rfl
        clear LN FM E AN RR
        rw [q2]
        clear q2
        subst q1
        go_wp2_with fail
        exact bodyPost_ret (v := .slice .none 0 0) (by simp [results, Tryd.results5, go_sem]) rfl ⟨_, rfl, by rw [HX.out, LZ.out, FZ.out]; exact World.ownsRow_nil _ _ _ _, B1.out⟩
      · obtain ⟨g, cg, qg⟩ : ∃ g cg, adr = some ⟨g, 0, .none⟩ ∧ cr = cg := by
          rcases E.out.2.1.2 with ⟨_, h0⟩ | ⟨g, cap', cur, h0, _⟩
          · exact absurd h0 cz
          · injection h0 with h1 h2 h3
            exact ⟨g, cr, h1, rfl⟩
        obtain ⟨rfl, rfl⟩ := qg
        have B1 := hideR E.out.2.2.2.1
        have SM : Hid (allN X - 1 + X.flatten.length ≤ 2000000000) := by
          have h1 := AN.out
          have h2 := HS.out
          show _ ≤ _
          omega
        generalize hq : X.flatten.length = q at *
        have HQ := hideR hq
        clear hq
        go_wp2_with (at_builtin; refine app_nodes rfl _ _ rfl w.heap.size _ _ _ rfl E.out.1 g 0 q cr X.flatten rfl HQ.out RR.out (by have := SM.out; omega) B1.out.size ?_; intro v' w3 hw hb; have O1 := hideR hw; have B2 := hideR (B1.out.trans hb); clear hw hb)
        exact bodyPost_ret (v := v') (by simp [results, Tryd.results5, go_sem]) rfl ⟨_, rfl, by rw [HX.out, LN.out, FM.out]; exact O1.out, B2.out⟩
end Go.Proofs.YtgidlgmnkjoofaaDoor
