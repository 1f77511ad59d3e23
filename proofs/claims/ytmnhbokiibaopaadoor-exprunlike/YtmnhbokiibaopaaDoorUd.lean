/-
  Unlike right lists have unlike texts.
-/
import Derived.Test.YtmnhbokiibaopaaDoorUc
namespace Go.Proofs.YtmnhbokiibaopaaDoor
open Go.RowKit
set_option linter.unusedVariables false
theorem stk_app {α : Type} {jn : Node → List α → Option α} : ∀ (a b : List Node) (sa sb : List α), stk jn a = some sa → stk jn b = some sb → stk jn (a ++ b) = some (sa ++ sb)
  | [], b, sa, sb, ha, hb => by simp [stk] at ha; subst ha; simpa using hb
  | n :: a, b, sa, sb, ha, hb => by
    obtain ⟨s', t, e, hl, ht, rfl⟩ := stk_some ha
    have ih := stk_app a b s' sb e hb
    have h1 : (s' ++ sb).take (pt n) = s'.take (pt n) := List.take_append_of_le_length hl
    have h2 : (s' ++ sb).drop (pt n) = s'.drop (pt n) ++ sb := List.drop_append_of_le_length hl
    rw [List.cons_append]
    rw [stk_more (n := n) ih (by rw [List.length_append]; omega) (by rw [h1]; exact ht), h2]
    rfl
theorem end_split {α : Type} {jn : Node → List α → Option α} : ∀ (L : List Node) (s : List α) (m : Nat), stk jn L = some s → 1 ≤ m → m ≤ s.length → ∃ A B, L = A ++ B ∧ stk jn A = some (s.take m) ∧ stk jn B = some (s.drop m)
  | [], s, m, h, h1, h2 => by
    simp [stk] at h
    subst h
    simp at h2
    omega
  | n :: r, s, m, h, h1, h2 => by
    obtain ⟨s', t, e, hl, ht, rfl⟩ := stk_some h
    rw [List.length_cons, List.length_drop] at h2
    obtain ⟨m0, rfl⟩ : ∃ m0, m = m0 + 1 := ⟨m - 1, by omega⟩
    by_cases c : m0 + pt n = 0
    · have hm : m0 = 0 := by omega
      have hp : pt n = 0 := by omega
      subst hm
      refine ⟨[n], r, rfl, ?_, ?_⟩
      · rw [stk_more (n := n) (l := []) (s := []) (t := t) rfl (by rw [hp]; exact Nat.zero_le _) (by rw [hp] at ht ⊢; simpa using ht)]
        simp
      · rw [e, hp]
        rfl
    · obtain ⟨A, B, hAB, hA, hB⟩ := end_split r s' (m0 + pt n) e (by omega) (by omega)
      refine ⟨n :: A, B, by rw [hAB]; rfl, ?_, ?_⟩
      · have h3 : (s'.take (m0 + pt n)).take (pt n) = s'.take (pt n) := by rw [List.take_take]; congr 1; omega
        have h4 : (s'.take (m0 + pt n)).drop (pt n) = (s'.drop (pt n)).take m0 := by rw [List.drop_take]; congr 1; omega
        rw [stk_more hA (by rw [List.length_take]; omega) (t := t) (by rw [h3]; exact ht), h4]
        rfl
      · rw [hB, List.drop_succ_cons, List.drop_drop]
        congr 2
        omega
theorem kindL_mk {k : Int} {l : List Node} {t : Nat} (hl : l.length ≤ 64) (h : stk (kindJ k) l = some [t]) : kindL k l = some t := by
  unfold kindL
  rw [if_neg (by omega)]
  exact fold_one _ l t h
theorem right_cases {k : Int} {l : List Node} {t : Nat} (h : kindL k l = some t) : ∃ n rest, l = n :: rest ∧ nodeOk k n ∧ ((pt n = 0 ∧ rest = []) ∨ (pt n = 1 ∧ ∃ t1, kindL k rest = some t1) ∨ (pt n = 2 ∧ ∃ a b ta tb, rest = a ++ b ∧ kindL k a = some ta ∧ kindL k b = some tb)) := by
  obtain ⟨h64, hs⟩ := kindL_stk h
  cases l with
  | nil => cases h
  | cons n rest =>
    obtain ⟨s', u, e, hl, hu, hq⟩ := stk_some hs
    refine ⟨n, rest, rfl, kind_nodes _ _ hs n List.mem_cons_self, ?_⟩
    injection hq with hq1 hq2
    have hlen : s'.length = pt n := by
      have := congrArg List.length hq2
      simp at this
      omega
    rw [List.length_cons] at h64
    have p2 := pt_le n
    have : pt n = 0 ∨ pt n = 1 ∨ pt n = 2 := by omega
    rcases this with c | c | c
    · left
      refine ⟨c, stk_ne (jn := kindJ k) ?_⟩
      rw [e]
      congr 1
      exact List.length_eq_zero_iff.1 (by omega)
    · right; left
      match s', hlen.trans c with
      | [t1], _ => exact ⟨c, t1, kindL_mk (by omega) e⟩
    · right; right
      match s', hlen.trans c with
      | [t1, t2], _ =>
        obtain ⟨A, B, hAB, hA, hB⟩ := end_split rest [t1, t2] 1 e (Nat.le_refl _) (by simp)
        have hl2 : A.length + B.length = rest.length := by rw [hAB, List.length_append]
        exact ⟨c, A, B, t1, t2, hAB, kindL_mk (by omega) hA, kindL_mk (by omega) hB⟩
def pcL (ns : List ByteArray) (l : List Node) : PT := (foldL (pcF ns) l).getD nil0
theorem pc_stk {k : Int} {ns : List ByteArray} {l : List Node} {t : Nat} (h : kindL k l = some t) : stk (pcF ns) l = some [pcL ns l] := by
  obtain ⟨_, hs⟩ := kindL_stk h
  obtain ⟨s', e, hl⟩ := stk_total (pcJ ns) l [t] hs
  match s', hl with
  | [u], _ =>
    have : foldL (pcF ns) l = some u := fold_one _ l u e
    unfold pcL
    rw [this]
    exact e
theorem pcL_of {ns : List ByteArray} {l : List Node} {v : PT} (h : stk (pcF ns) l = some [v]) : pcL ns l = v := by
  unfold pcL
  rw [fold_one _ l v h]
  rfl
theorem pcL_0 {ns : List ByteArray} {n : Node} (hp : pt n = 0) : pcL ns [n] = pcJ ns n [] := by
  refine pcL_of ?_
  rw [stk_more (n := n) (l := []) (s := []) (t := pcJ ns n []) rfl (by omega) (by rw [hp]; rfl)]
  simp
theorem pcL_1 {k : Int} {ns : List ByteArray} {n : Node} {r : List Node} {t : Nat} (hr : kindL k r = some t) (hp : pt n = 1) : pcL ns (n :: r) = pcJ ns n [pcL ns r] := by
  refine pcL_of ?_
  rw [stk_more (pc_stk hr) (by rw [hp]; exact Nat.le_refl _) (t := pcJ ns n [pcL ns r]) (by rw [hp]; rfl), hp]
  rfl
theorem pcL_2 {k : Int} {ns : List ByteArray} {n : Node} {a b : List Node} {ta tb : Nat} (ha : kindL k a = some ta) (hb : kindL k b = some tb) (hp : pt n = 2) : pcL ns (n :: (a ++ b)) = pcJ ns n [pcL ns a, pcL ns b] := by
  refine pcL_of ?_
  rw [stk_more (stk_app a b _ _ (pc_stk ha) (pc_stk hb)) (by rw [hp]; exact Nat.le_refl _) (t := pcJ ns n [pcL ns a, pcL ns b]) (by rw [hp]; rfl), hp]
  rfl
theorem pcL_inv {ns : List ByteArray} (hns : ∀ s ∈ ns, NameOk s) {l : List Node} {t : Nat} (h : kindL (ns.length : Int) l = some t) : Inv (pcL ns l) :=
  stk_inv hns l (kind_nodes l _ (kindL_stk h).2) _ (pc_stk h) _ List.mem_cons_self
/-- Where the last operator that binds least stands. -/
theorem last_op : ∀ (P P' Q Q' : List Piece) (o o' b : Nat), bdO o = b → bdO o' = b → o ≠ 0 → o' ≠ 0 → allOps (b + 1) Q → allOps (b + 1) Q' → P ++ ([], o) :: Q = P' ++ ([], o') :: Q' → P = P' ∧ o = o' ∧ Q = Q'
  | [], [], Q, Q', o, o', b, h1, h2, z1, z2, a1, a2, e => by
    injection e with e1 e2
    injection e1 with _ e1
    exact ⟨rfl, e1, e2⟩
  | [], p :: P', Q, Q', o, o', b, h1, h2, z1, z2, a1, a2, e => by
    injection e with e1 e2
    have := a1 ([], o') (by rw [e2]; simp) z2
    have h3 : b + 1 ≤ bdO o' := this
    omega
  | p :: P, [], Q, Q', o, o', b, h1, h2, z1, z2, a1, a2, e => by
    injection e with e1 e2
    have := a2 ([], o) (by rw [← e2]; simp) z1
    have h3 : b + 1 ≤ bdO o := this
    omega
  | p :: P, p' :: P', Q, Q', o, o', b, h1, h2, z1, z2, a1, a2, e => by
    injection e with e1 e2
    obtain ⟨r1, r2, r3⟩ := last_op P P' Q Q' o o' b h1 h2 z1 z2 a1 a2 e2
    exact ⟨by rw [e1, r1], r2, r3⟩
theorem itoa_inj (M N : Nat) (h : Lib.itoa (M : Int) = Lib.itoa (N : Int)) : M = N := by
  rw [Lib.itoa_nonneg, Lib.itoa_nonneg] at h
  rw [← digits_val M, ← digits_val N, h]
/-- What a node without two parts begins with. -/
theorem pc_single {ns : List ByteArray} {n : Node} {ps : List PT} (h : ¬ (opR n.1).1 = 2) (hin : 1 ≤ n.1 ∧ n.1 ≤ 14) : ∃ A, (pcJ ns n ps).1 = [(A, 0)] := by
  have t : ∀ o : Nat, o < 15 → 1 ≤ o → ¬ (opR o).1 = 2 → o = 1 ∨ o = 2 ∨ o = 7 ∨ o = 3 ∨ o = 12 := by decide
  obtain ⟨o, N⟩ := n
  rcases t o (by have := hin.2; simp only at this; omega) hin.1 h with rfl | rfl | rfl | rfl | rfl <;> exact ⟨_, rfl⟩
end Go.Proofs.YtmnhbokiibaopaaDoor
