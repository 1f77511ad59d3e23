/-
  What is known of the stack of a right list; the closure of expr.worth, expr.worth, Value, Holds.
-/
import Derived.Test.YtgidlgmnkjoofaaDoorPi
namespace Go.Proofs.YtgidlgmnkjoofaaDoor
open Go.RowKit
set_option linter.unusedVariables false
theorem stk_some {α : Type} {jn : Node → List α → Option α} {n : Node} {l : List Node} {s : List α} (h : stk jn (n :: l) = some s) : ∃ s' t, stk jn l = some s' ∧ pt n ≤ s'.length ∧ jn n (s'.take (pt n)) = some t ∧ s = t :: s'.drop (pt n) := by
  rw [stk] at h
  split at h
  · cases h
  · rename_i s' e
    split at h
    · cases h
    · rename_i hl
      obtain ⟨t, ht, rfl⟩ := Option.map_eq_some_iff.1 h
      exact ⟨s', t, e, by omega, ht, rfl⟩
theorem stk_more {α : Type} {jn : Node → List α → Option α} {n : Node} {l : List Node} {s : List α} {t : α} (h : stk jn l = some s) (hl : pt n ≤ s.length) (ht : jn n (s.take (pt n)) = some t) : stk jn (n :: l) = some (t :: s.drop (pt n)) := by
  rw [stk_cons jn n l h, if_neg (by omega), ht]
  rfl
/-- A node that may stand in a list over k variables. -/
def nodeOk (k : Int) (n : Node) : Prop := (opR n.1).2.2.1 ≠ 0 ∧ mayH n.1 n.2 k = true
theorem kind_ok {k : Int} {n : Node} {ps : List Nat} {t : Nat} (h : kindJ k n ps = some t) : nodeOk k n ∧ t = (opR n.1).2.2.1 ∧ ∀ p ∈ ps, p = (opR n.1).2.1 := by
  unfold kindJ at h
  split at h
  · rename_i ha
    split at h
    · rename_i hb
      injection h with h
      refine ⟨hb, h.symm, fun p hp => ?_⟩
      have := List.all_eq_true.1 ha p hp
      simpa using this
    · cases h
  · cases h
theorem kind_nodes {k : Int} : ∀ (l : List Node) (s : List Nat), stk (kindJ k) l = some s → ∀ n ∈ l, nodeOk k n
  | [], _, _, n, hn => by cases hn
  | x :: l, s, h, n, hn => by
    obtain ⟨s', t, e, _, ht, _⟩ := stk_some h
    rcases List.mem_cons.1 hn with rfl | hn
    · exact (kind_ok ht).1
    · exact kind_nodes l s' e n hn
theorem stk_total {α : Type} {k : Int} (f : Node → List α → α) : ∀ (l : List Node) (s : List Nat), stk (kindJ k) l = some s → ∃ s', stk (fun n ps => some (f n ps)) l = some s' ∧ s'.length = s.length
  | [], s, h => by simp [stk] at h; subst h; exact ⟨[], rfl, rfl⟩
  | x :: l, s, h => by
    obtain ⟨s', t, e, hl, ht, rfl⟩ := stk_some h
    obtain ⟨u, hu, hlen⟩ := stk_total f l s' e
    exact ⟨_, stk_more hu (by omega) rfl, by simp [hlen]⟩
theorem op_kind (o : Nat) (h : (opR o).2.2.1 ≠ 0) : 1 ≤ o ∧ o ≤ 14 := by
  by_cases c : o < 15
  · have : ∀ o : Nat, o < 15 → (opR o).2.2.1 ≠ 0 → 1 ≤ o := by decide
    exact ⟨this o c h, by omega⟩
  · rw [opR_out o (by omega)] at h
    exact absurd rfl h
theorem ok_in {k : Int} {n : Node} (h : nodeOk k n) : 1 ≤ n.1 ∧ n.1 ≤ 14 := op_kind n.1 h.1
theorem ok_num {k : Int} {n : Node} (h : nodeOk k n) (h1 : n.1 = 1) : 0 ≤ n.2 ∧ n.2 ≤ 1048576 := by
  have := h.2
  rw [h1] at this
  simpa [mayH] using this
theorem ok_var {k : Int} {n : Node} (h : nodeOk k n) (h1 : n.1 = 2) : 0 ≤ n.2 ∧ n.2 < k := by
  have := h.2
  rw [h1] at this
  simpa [mayH] using this
theorem inR_hold (x : Int) : inR (holdV x).1 := by
  unfold holdV
  split
  · assumption
  · unfold inR; omega
theorem inR_ans (b : Bool) : inR (ansV b).1 := by cases b <;> decide
theorem inR_w64 (x : Int) : inR (wrap64 x) := by unfold wrap64 inR; omega
theorem inR_join (o : Nat) (a b : Int) (hb : inR b) : inR (joinV o a b).1 := by
  unfold joinV
  repeat' split
  all_goals first | exact inR_hold _ | exact inR_ans _ | exact hb
theorem inR_get (ps : List Val) (i : Nat) (h : ∀ p ∈ ps, inR p.1) : inR (ps.getD i (0, false)).1 := by
  rw [List.getD_eq_getElem?_getD]
  cases e : ps[i]? with
  | none => decide
  | some p => exact h p (List.mem_of_getElem? e)
theorem inR_value {k : Int} (vs : List Int) (n : Node) (ps : List Val) (hn : nodeOk k n) (hv : ∀ v ∈ vs, inR v) (hp : ∀ p ∈ ps, inR p.1) : inR (valueJ vs n ps).1 := by
  unfold valueJ
  repeat' split
  · have := ok_num hn (by assumption)
    show inR n.2
    unfold inR
    omega
  · show inR (vs.getD n.2.toNat 0)
    rw [List.getD_eq_getElem?_getD]
    cases e : vs[n.2.toNat]? with
    | none => decide
    | some p => exact hv p (List.mem_of_getElem? e)
  · decide
  · exact inR_get ps 0 hp
  · exact inR_get ps 0 hp
  · exact inR_get ps 0 hp
  · exact inR_hold _
  · exact inR_w64 _
  · exact inR_get ps 1 hp
  · exact inR_join _ _ _ (inR_get ps 1 hp)
abbrev valF (vs : List Int) : Node → List Val → Option Val := fun n ps => some (valueJ vs n ps)
theorem stk_inR {k : Int} (vs : List Int) (hv : ∀ v ∈ vs, inR v) : ∀ (l : List Node) (hn : ∀ n ∈ l, nodeOk k n) (s : List Val), stk (valF vs) l = some s → ∀ p ∈ s, inR p.1
  | [], _, s, h, p, hp => by simp [stk] at h; subst h; cases hp
  | x :: l, hn, s, h, p, hp => by
    obtain ⟨s', t, e, hl, ht, rfl⟩ := stk_some h
    have ih := stk_inR vs hv l (fun n m => hn n (List.mem_cons_of_mem _ m)) s' e
    rcases List.mem_cons.1 hp with rfl | hp
    · injection ht with ht
      rw [← ht]
      exact inR_value vs x _ (hn x List.mem_cons_self) hv (fun q hq => ih q (List.mem_of_mem_take hq))
    · exact ih p (List.mem_of_mem_drop hp)
theorem kindL_stk {k : Int} {l : List Node} {t : Nat} (h : kindL k l = some t) : l.length ≤ 64 ∧ stk (kindJ k) l = some [t] := by
  unfold kindL at h
  split at h
  · cases h
  · refine ⟨by omega, ?_⟩
    unfold foldL at h
    split at h
    · rename_i u e
      injection h with h
      subst h
      exact e
    · cases h
/-- The value of a right list. -/
def valL (vs : List Int) (l : List Node) : Val := (foldL (valF vs) l).getD (0, false)
theorem valL_some {k : Int} {vs : List Int} {l : List Node} {t : Nat} (h : kindL k l = some t) : foldL (valF vs) l = some (valL vs l) := by
  obtain ⟨_, hs⟩ := kindL_stk h
  obtain ⟨s', e, hl⟩ := stk_total (valueJ vs) l [t] hs
  match s', hl with
  | [u], _ =>
    have : foldL (valF vs) l = some u := fold_one _ l u e
    unfold valL
    rw [this]
    rfl
set_option maxRecDepth 100000 in
set_option maxHeartbeats 1000000 in
theorem worthClo (vs : List Int) (n : Node) (ps : List Val) (hok : NodeOK vs n ps) (va : Option Addr) (vc vb : Nat) (ad : Option Addr) (cap : Nat) (w : World) (hc : w.cell? ⟨vb, 0, none⟩ = some (.slice va vs.length vc)) (hv : RowV w va (vs.flatMap IntC)) (hp : RowV w ad (ps.flatMap ValC)) :
    Calls Tryd.prog 56 #[nodeV n, .slice ad ps.length cap, .pointer (some ⟨vb, 0, none⟩)] w fun e w' => AnsV e (valF vs n ps) ∧ Below w.heap.size w w' := by
  have F := hideR (fun W (hb : Below w.heap.size w W) => valueOf_any vs n ps hok va vc ad cap W (hv.later hb) (hp.later hb))
  clear hv hp hok
  unfold AnsV
  simp only [valF]
  generalize valueJ vs n ps = v at *
  obtain ⟨o, N⟩ := n
  obtain ⟨x, y⟩ := v
  have hl : vb < w.heap.size := World.block_lt_of_cell? _ _ hc
  have hl0 : ¬ vb = w.heap.size := by omega
  have hl1 : ¬ vb = w.heap.size + 1 := by omega
  have hl3 : vb < w.heap.size + 1 := by omega
  have HB0 := hideR (two w (.cells #[.int .u8 (o : Int), .int .i64 N] 54) (.cells #[.int .i64 0, .bool false] 119))
  go_enter Tryd.func56, Tryd.ntmps56
  go_wp2_with fail
  refine (F.out _ HB0.out).mono ?_
  rintro e w1 ⟨rfl, hb⟩
  clear F
  have R0 := kc ⟨w.heap.size + 1, 0, none⟩ (.int .i64 0) hb (by simp [go_sem])
  have R1 := kc ⟨w.heap.size + 1, 1, none⟩ (.bool false) hb (by simp [go_sem])
  have G0 := kf ⟨w.heap.size + 1, 0, none⟩ (.int .i64 0) hb (by simp [go_sem]) (by simp [go_sem])
  have G1 := kf ⟨w.heap.size + 1, 1, none⟩ (.bool false) hb (by simp [go_sem]) (by simp [go_sem])
  have HB := hideR (beyond HB0.out hb)
  clear hb HB0
  go_wp2_with fail
  exact bodyPost_ret (v := .tuple #[.agg #[.int .i64 x, .bool y], .bool true]) (by simp [results, Tryd.results56, go_sem, *]) rfl ⟨⟨(x, y), true, rfl, rfl⟩, set2 HB.out (Nat.le_succ _) _ _⟩
/-- The value of a list of a kind, and the error. -/
def worthT (wk : Nat) (vs : List Int) (l : List Node) : Int × Int := if kindL (vs.length : Int) l = some wk then (if (valL vs l).2 = true then (0, 20) else ((valL vs l).1, 0)) else (0, 121)
theorem rowI {w : World} {va : Option Addr} {vs : List Int} (h : RowV w va (vs.map (fun x => .int .i64 x))) : RowV w va (vs.flatMap IntC) := by
  have : vs.flatMap IntC = vs.map (fun x => .int .i64 x) := by
    clear h
    induction vs with
    | nil => rfl
    | cons a l ih => simp [ih]
  rwa [this]
set_option maxRecDepth 100000 in
set_option maxHeartbeats 2000000 in
theorem worth_any (ad : Option Addr) (cap : Nat) (l : List Node) (va : Option Addr) (vc : Nat) (vs : List Int) (wk : Nat) (w : World) (hT : OpsT w) (hV : RowV w ad (l.flatMap NodeC)) (hI : ∀ n ∈ l, n.1 < 256) (hv : RowV w va (vs.flatMap IntC)) (hvs : ∀ v ∈ vs, inR v) :
    Calls Tryd.prog 38 #[.slice ad l.length cap, .slice va vs.length vc, .int .u8 (wk : Int)] w fun e w' => e = .returned (.tuple #[.int .i64 (worthT wk vs l).1, .int .i64 (worthT wk vs l).2]) ∧ Below w.heap.size w w' := by
  have S := hideR (single w (.cells #[.slice va vs.length vc] 26))
  have KO := hideR (kindOf_any ad cap l (vs.length : Int) _ (ops_later hT S.out) (hV.later S.out) hI)
  have vb0 : (w.alloc (.cells #[.slice va vs.length vc] 26)).cell? ⟨w.heap.size, 0, none⟩ = some (.slice va vs.length vc) := by simp [go_sem]
  have FO : Hid (∀ t, kindL (vs.length : Int) l = some t → ∀ W, Below (w.alloc (.cells #[.slice va vs.length vc] 26)).heap.size (w.alloc (.cells #[.slice va vs.length vc] 26)) W → Calls Tryd.prog 55 #[.slice ad l.length cap, .func (.func 56) #[] #[.pointer (some ⟨w.heap.size, 0, none⟩)]] W fun e w' => AnsV e (some (valL vs l)) ∧ Below W.heap.size W w') := by
    intro t ht W hb
    obtain ⟨hlen, hst⟩ := kindL_stk ht
    have hn := kind_nodes l _ hst
    have hB := beyond S.out hb
    have F := foldV ad cap l (valF vs) (.pointer (some ⟨w.heap.size, 0, none⟩)) W (ops_later hT hB) (hV.later hB) hlen hI (by
      intro i x l' hd s hs hp ad' cap' W' hb' hr
      have hB' := beyond hB hb'
      have hx := hn x (node_mem hd)
      have hl2 : (s.take (pt x)).length = pt x := by rw [List.length_take]; omega
      have hsub : ∀ n ∈ l', nodeOk (vs.length : Int) n := fun n m => hn n (by
        have : n ∈ l.drop i := by rw [hd]; exact List.mem_cons_of_mem _ m
        exact List.mem_of_mem_drop this)
      have := worthClo vs x (s.take (pt x)) ⟨(ok_in hx).1, (ok_in hx).2, ok_var hx, hl2, fun p hp => stk_inR vs hvs l' hsub s hs p (List.mem_of_mem_take hp)⟩ va vc w.heap.size ad' cap' W' (kc _ _ (beyond hb hb') vb0) (hv.later hB') hr
      rw [hl2] at this
      exact this)
    rw [valL_some ht] at F
    exact F
  have WT : Hid (worthT wk vs l = if kindL (vs.length : Int) l = some wk then (if (valL vs l).2 = true then (0, 20) else ((valL vs l).1, 0)) else (0, 121)) := rfl
  clear hT hV hI hv hvs vb0
  generalize worthT wk vs l = R at *
  generalize valL vs l = V at *
  generalize kindL (vs.length : Int) l = K at *
  generalize vs.length = m at *
  generalize l.length = n at *
  obtain ⟨x, y⟩ := V
  go_enter Tryd.func38, Tryd.ntmps38
  go_wp2_with fail
  refine KO.out.mono ?_
  rintro e w1 ⟨⟨t, r, rfl, hr⟩, hb⟩
  clear KO
  have HB := hideR (beyond S.out hb)
  have HC := hideR hb
  clear hb
  cases r with
  | false =>
    simp only [Bool.false_eq_true, if_false] at hr
    subst hr
    simp only [reduceCtorEq, if_false] at WT
    clear FO
    go_wp2_with fail
    exact bodyPost_ret (v := .tuple #[.int .i64 0, .int .i64 121]) (by simp [results, Tryd.results38, go_sem]) rfl ⟨by rw [WT.out], HB.out⟩
  | true =>
    simp only [if_true] at hr
    subst hr
    by_cases c : t = wk
    · subst c
      simp only [if_true] at WT
      have F := hideR (FO.out t rfl w1 HC.out)
      clear FO
      go_wp2_with fail
      refine F.out.mono ?_
      rintro e w2 ⟨⟨u, r, rfl, hr⟩, hb⟩
      clear F
      cases r with
      | false => simp at hr
      | true =>
        simp only [if_true, Option.some.injEq] at hr
        subst hr
        have HB2 := hideR (beyond HB.out hb)
        clear hb HB HC
        cases y with
        | true =>
          simp only [if_true] at WT
          go_wp2_with fail
          exact bodyPost_ret (v := .tuple #[.int .i64 0, .int .i64 20]) (by simp [results, Tryd.results38, go_sem]) rfl ⟨by rw [WT.out], HB2.out.alloc (HB2.out.size) _⟩
        | false =>
          simp only [Bool.false_eq_true, if_false] at WT
          go_wp2_with fail
          exact bodyPost_ret (v := .tuple #[.int .i64 x, .int .i64 0]) (by simp [results, Tryd.results38, go_sem]) rfl ⟨by rw [WT.out], HB2.out.alloc (HB2.out.size) _⟩
    · rw [if_neg (fun q => c (Option.some.inj q))] at WT
      have c1 : ¬ (t : Int) = (wk : Int) := by omega
      have c2 : ((t : Int) == (wk : Int)) = false := by simp; omega
      have c3 : ((t : Int) != (wk : Int)) = true := by simp; omega
      clear FO
      go_wp2_with fail
      exact bodyPost_ret (v := .tuple #[.int .i64 0, .int .i64 121]) (by simp [results, Tryd.results38, go_sem]) rfl ⟨by rw [WT.out], HB.out⟩
set_option maxRecDepth 100000 in
theorem value_any (ad : Option Addr) (cap : Nat) (l : List Node) (va : Option Addr) (vc : Nat) (vs : List Int) (w : World) (hT : OpsT w) (hV : RowV w ad (l.flatMap NodeC)) (hI : ∀ n ∈ l, n.1 < 256) (hv : RowV w va (vs.flatMap IntC)) (hvs : ∀ v ∈ vs, inR v) :
    Calls Tryd.prog 18 #[.slice ad l.length cap, .slice va vs.length vc] w fun e w' => e = .returned (.tuple #[.int .i64 (worthT 1 vs l).1, .int .i64 (worthT 1 vs l).2]) ∧ Below w.heap.size w w' := by
  have F := hideR (worth_any ad cap l va vc vs 1 w hT hV hI hv hvs)
  clear hT hV hI hv hvs
  generalize worthT 1 vs l = R at *
  generalize vs.length = m at *
  generalize l.length = n at *
  go_enter Tryd.func18, Tryd.ntmps18
  go_wp2_with fail
  refine F.out.mono ?_
  rintro e w1 ⟨rfl, hb⟩
  clear F
  have HB := hideR hb
  clear hb
  go_wp2_with fail
  exact bodyPost_ret (v := .tuple #[.int .i64 R.1, .int .i64 R.2]) (by simp [results, Tryd.results18, go_sem]) rfl ⟨rfl, HB.out⟩
/-- Whether a list holds, and the error. -/
def holdsT (vs : List Int) (l : List Node) : Bool × Int := if l.length = 0 then (true, 0) else ((worthT 2 vs l).1 == 1, (worthT 2 vs l).2)
end Go.Proofs.YtgidlgmnkjoofaaDoor
