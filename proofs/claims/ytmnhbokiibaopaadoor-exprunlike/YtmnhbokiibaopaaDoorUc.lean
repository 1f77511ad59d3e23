/-
  The pieces of a right list; unlike lists have unlike pieces.
-/
import Derived.Test.YtmnhbokiibaopaaDoorUb
namespace Go.Proofs.YtmnhbokiibaopaaDoor
open Go.RowKit
set_option linter.unusedVariables false
abbrev PT := List Piece × Nat
def fbP (b : Nat) (x : PT) : List Piece := if x.2 < b then [(40 :: (cat x.1 ++ [41]), 0)] else x.1
abbrev nil0 : PT := ([], 0)
abbrev bdO (o : Nat) : Nat := (opR o).2.2.2.2
def pcJ (ns : List ByteArray) (n : Node) (ps : List PT) : PT :=
  (if n.1 = 1 then [(Lib.itoa n.2, 0)] else if n.1 = 2 then [((ns.getD n.2.toNat (str [])).data.toList, 0)] else if n.1 = 7 then [(sg 7, 0)] else
   if n.1 = 3 then [(45 :: cat (fbP 6 (ps.getD 0 nil0)), 0)] else if n.1 = 12 then [(33 :: 40 :: (cat (ps.getD 0 nil0).1 ++ [41]), 0)] else
   fbP (bdO n.1) (ps.getD 0 nil0) ++ ([], n.1) :: fbP (bdO n.1 + 1) (ps.getD 1 nil0), bdO n.1)
def toT (x : PT) : Txt := (str (cat x.1), x.2)
theorem str_cons (a : List UInt8) (b : List UInt8) : str a ++ str b = str (a ++ b) := by
  apply ByteArray.ext
  simp [ByteArray.data_append]
theorem inT_toT (b : Nat) (x : PT) : inT b (toT x) = str (cat (fbP b x)) := by
  unfold inT fbP toT
  simp only
  by_cases c : x.2 < b
  · rw [if_pos c, if_pos c]
    unfold brT
    rw [str_cons, str_cons]
    simp [cat, cat1]
  · rw [if_neg c, if_neg c]
theorem str_back (s : ByteArray) : str s.data.toList = s := by
  apply ByteArray.ext
  simp
theorem text_pc (ns : List ByteArray) (n : Node) (ps : List PT) (hin : 1 ≤ n.1 ∧ n.1 ≤ 14) (hl : ps.length = pt n) : textJ ns n (ps.map toT) = toT (pcJ ns n ps) := by
  have P1 := pt_one n hin
  have P2 := pt_two n hin
  rw [← hl] at P1 P2
  obtain ⟨o, N⟩ := n
  simp only at *
  have single : ∀ A : List UInt8, cat [(A, 0)] = A := fun A => by simp [cat, cat1]
  refine Prod.ext ?_ rfl
  show wordsJ ns (o, N) (ps.map toT) = str (cat (pcJ ns (o, N) ps).1)
  unfold wordsJ pcJ
  simp only
  by_cases c1 : o = 1
  · rw [if_pos c1, if_pos c1, single]
  rw [if_neg c1, if_neg c1]
  by_cases c2 : o = 2
  · rw [if_pos c2, if_pos c2, single, str_back]
  rw [if_neg c2, if_neg c2]
  by_cases c7 : o = 7
  · subst c7
    rw [if_pos rfl, if_pos rfl, single]
  rw [if_neg c7, if_neg c7]
  match ps, P1 c1 c2 c7 with
  | x :: rest, _ =>
    simp only [List.map_cons, List.getD_cons_zero]
    by_cases c3 : o = 3
    · subst c3
      rw [if_pos rfl, if_pos rfl, inT_toT, single, str_cons]
      rfl
    rw [if_neg c3, if_neg c3]
    by_cases c12 : o = 12
    · subst c12
      rw [if_pos rfl, if_pos rfl, single]
      show str [33] ++ brT (str (cat x.1)) = _
      unfold brT
      rw [str_cons, str_cons, str_cons]
      rfl
    rw [if_neg c12, if_neg c12]
    match rest, P2 c1 c2 c7 c3 c12 with
    | y :: rest, _ =>
      simp only [List.map_cons, List.getD_cons_succ, List.getD_cons_zero]
      have hq := P2 c1 c2 c7 c3 c12
      have o2 : o ≠ 0 := by omega
      rw [inT_toT, inT_toT, str_cons, str_cons, cat_app, cat_cons]
      rw [show cat1 (([], o) : Piece) = sg o from if_neg o2, ← List.append_assoc]
abbrev pcF (ns : List ByteArray) : Node → List PT → Option PT := fun n ps => some (pcJ ns n ps)
theorem stk_pc {k : Int} (ns : List ByteArray) : ∀ (L : List Node) (hn : ∀ n ∈ L, nodeOk k n) (s : List PT), stk (pcF ns) L = some s → stk (txtF ns) L = some (s.map toT)
  | [], _, s, h => by simp [stk] at h; subst h; rfl
  | n :: r, hn, s, h => by
    obtain ⟨s', t, e, hl, ht, rfl⟩ := stk_some h
    have ih := stk_pc ns r (fun x hx => hn x (List.mem_cons_of_mem _ hx)) s' e
    injection ht with ht
    have hlen : (s'.take (pt n)).length = pt n := by rw [List.length_take]; omega
    rw [stk_more ih (by simpa using hl) (t := toT t) (by show some (textJ ns n ((s'.map toT).take (pt n))) = some (toT t); rw [← List.map_take, text_pc ns n _ (ok_in (hn n List.mem_cons_self)) hlen, ht]), List.map_cons, List.map_drop]
def allOps (b : Nat) (P : List Piece) : Prop := ∀ p ∈ P, p.2 ≠ 0 → b ≤ bdO p.2
structure Inv (x : PT) : Prop where
  wf : wfP x.1
  ops : allOps x.2 x.1
  one : 6 ≤ x.2 → ∃ A, x.1 = [(A, 0)]
  head : ∀ A, x.1 = [(A, 0)] → A.head? ≠ some 40
theorem fb_wf {x : PT} (h : Inv x) (b : Nat) : wfP (fbP b x) := by
  unfold fbP
  split
  · exact ⟨rfl, good_bracket h.wf, by simp⟩
  · exact h.wf
theorem fb_ops {x : PT} (h : Inv x) (b : Nat) : allOps b (fbP b x) := by
  unfold fbP
  split
  · intro p hp hz
    rw [List.mem_singleton.1 hp] at hz
    exact absurd rfl hz
  · rename_i c
    intro p hp hz
    exact Nat.le_trans (by omega) (h.ops p hp hz)
theorem fb_inj {x y : PT} (hx : Inv x) (hy : Inv y) (b : Nat) (e : fbP b x = fbP b y) : x.1 = y.1 := by
  unfold fbP at e
  split at e <;> split at e
  · injection e with e
    injection e with e
    injection e with _ e
    exact cat_inj _ _ hx.wf hy.wf (List.append_cancel_right e)
  · exact absurd rfl (hy.head _ e.symm)
  · exact absurd rfl (hx.head _ e)
  · exact e
/-- Names that may be. -/
def NameOk (s : ByteArray) : Prop := (∀ c ∈ s.data.toList, c ≠ 40 ∧ c ≠ 41 ∧ c ≠ 32) ∧ (∃ c r, s.data.toList = c :: r ∧ 65 ≤ c.toNat) ∧ s.data.toList ≠ sg 7
theorem single_inv {A : List UInt8} (b : Nat) (h1 : good A 0 = true) (h2 : A ≠ []) (h3 : A.head? ≠ some 40) : Inv ([(A, 0)], b) :=
  ⟨⟨rfl, h1, h2⟩, fun p hp hz => by
    rw [List.mem_singleton.1 hp] at hz
    exact absurd rfl hz, fun _ => ⟨A, rfl⟩, fun B hB => by
    injection hB with hB
    injection hB with hB
    rw [← hB]; exact h3⟩
theorem itoa_good (N : Nat) : good (Lib.itoa (N : Int)) 0 = true ∧ Lib.itoa (N : Int) ≠ [] ∧ ∃ c r, Lib.itoa (N : Int) = c :: r ∧ isDig c := by
  rw [Lib.itoa_nonneg]
  have h1 := digits_all N
  have h2 := digits_ne N
  refine ⟨good_plain _ (fun c hc => ?_), h2, ?_⟩
  · have := h1 c hc
    unfold isDig at this
    refine ⟨?_, ?_, ?_⟩ <;> (rintro rfl; revert this; decide)
  · cases e : Lib.decDigits N with
    | nil => exact absurd e h2
    | cons c r => exact ⟨c, r, rfl, h1 c (by rw [e]; exact List.mem_cons_self)⟩
theorem pc_inv {ns : List ByteArray} (hns : ∀ s ∈ ns, NameOk s) (n : Node) (ps : List PT) (hn : nodeOk (ns.length : Int) n) (hl : ps.length = pt n) (hp : ∀ p ∈ ps, Inv p) : Inv (pcJ ns n ps) := by
  have hin := ok_in hn
  have hnum := ok_num hn
  have hvar := ok_var hn
  have P1 := pt_one n hin
  have P2 := pt_two n hin
  have p2 := pt_le n
  rw [← hl] at P1 P2 p2
  have hpt : ¬ n.1 = 1 → ¬ n.1 = 2 → ¬ n.1 = 7 → ¬ n.1 = 3 → ¬ n.1 = 12 → (opR n.1).1 = 2 := fun a b c d e => by
    have := P2 a b c d e
    have h3 : (opR n.1).1 = pt n := rfl
    omega
  obtain ⟨o, N⟩ := n
  simp only at *
  unfold pcJ
  simp only
  by_cases c1 : o = 1
  · rw [if_pos c1]
    obtain ⟨n0, n1⟩ := hnum c1
    obtain ⟨M, rfl⟩ := Int.eq_ofNat_of_zero_le n0
    obtain ⟨g1, g2, c, r, g3, g4⟩ := itoa_good M
    refine single_inv _ g1 g2 ?_
    rw [g3]
    intro q
    injection q with q
    subst q
    unfold isDig at g4
    revert g4
    decide
  rw [if_neg c1]
  by_cases c2 : o = 2
  · rw [if_pos c2]
    obtain ⟨v0, v1⟩ := hvar c2
    obtain ⟨M, rfl⟩ := Int.eq_ofNat_of_zero_le v0
    have hM : M < ns.length := by omega
    have e : ns.getD (M : Int).toNat (str []) = ns[M] := by simp [hM]
    rw [e]
    obtain ⟨g1, ⟨c, r, g2, g3⟩, _⟩ := hns _ (List.getElem_mem hM)
    refine single_inv _ (good_plain _ g1) (by rw [g2]; simp) ?_
    rw [g2]
    intro q
    injection q with q
    subst q
    revert g3
    decide
  rw [if_neg c2]
  by_cases c7 : o = 7
  · rw [if_pos c7]
    exact single_inv _ (by decide) (by decide) (by decide)
  rw [if_neg c7]
  match ps, P1 c1 c2 c7 with
  | x :: rest, _ =>
    have hx := hp x List.mem_cons_self
    simp only [List.getD_cons_zero]
    by_cases c3 : o = 3
    · rw [if_pos c3]
      have hs : ∃ A, fbP 6 x = [(A, 0)] := by
        unfold fbP
        split
        · exact ⟨_, rfl⟩
        · exact hx.one (by omega)
      obtain ⟨A, hA⟩ := hs
      have hw := fb_wf hx 6
      rw [hA] at hw ⊢
      have : cat [(A, 0)] = A := by simp [cat, cat1]
      rw [this]
      refine single_inv _ ?_ (by simp) (by simp)
      rw [good_cons, if_neg (by decide), if_neg (by decide), if_neg (by decide)]
      exact hw.2.1
    rw [if_neg c3]
    by_cases c12 : o = 12
    · rw [if_pos c12]
      refine single_inv _ ?_ (by simp) (by simp)
      rw [good_cons, if_neg (by decide), if_neg (by decide), if_neg (by decide)]
      exact good_bracket hx.wf
    rw [if_neg c12]
    have ho := hpt c1 c2 c7 c3 c12
    match rest, P2 c1 c2 c7 c3 c12 with
    | y :: rest, _ =>
      have hy := hp y (by simp)
      simp only [List.getD_cons_succ, List.getD_cons_zero]
      refine ⟨wf_join _ _ o (fb_wf hx _) (fb_wf hy _) ho, ?_, ?_, ?_⟩
      · intro p hp' hz
        rcases List.mem_append.1 hp' with q | q
        · exact fb_ops hx _ p q hz
        · rcases List.mem_cons.1 q with q | q
          · rw [q]
            exact Nat.le_refl _
          · exact Nat.le_trans (Nat.le_succ _) (fb_ops hy _ p q hz)
      · intro h6
        have t : ∀ o : Nat, o < 15 → (opR o).1 = 2 → bdO o < 6 := by decide
        have := t o (op_lt ho) ho
        have h6' : 6 ≤ bdO o := h6
        omega
      · intro A hA
        have : (([], o) : Piece) ∈ [(A, 0)] := by rw [← hA]; simp
        have := List.mem_singleton.1 this
        injection this with _ q
        exact absurd q (op_nz ho)
theorem stk_inv {ns : List ByteArray} (hns : ∀ s ∈ ns, NameOk s) : ∀ (L : List Node) (hn : ∀ n ∈ L, nodeOk (ns.length : Int) n) (s : List PT), stk (pcF ns) L = some s → ∀ x ∈ s, Inv x
  | [], _, s, h, x, hx => by simp [stk] at h; subst h; cases hx
  | n :: r, hn, s, h, x, hx => by
    obtain ⟨s', t, e, hl, ht, rfl⟩ := stk_some h
    have ih := stk_inv hns r (fun x hx => hn x (List.mem_cons_of_mem _ hx)) s' e
    injection ht with ht
    rcases List.mem_cons.1 hx with q | q
    · rw [q, ← ht]
      exact pc_inv hns n _ (hn n List.mem_cons_self) (by rw [List.length_take]; omega) (fun p hp => ih p (List.mem_of_mem_take hp))
    · exact ih x (List.mem_of_mem_drop q)
end Go.Proofs.YtmnhbokiibaopaaDoor
