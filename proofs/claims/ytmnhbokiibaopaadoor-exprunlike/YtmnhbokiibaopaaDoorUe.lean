/-
  Unlike right lists have unlike texts.
-/
import Derived.Test.YtmnhbokiibaopaaDoorUd
namespace Go.Proofs.YtmnhbokiibaopaaDoor
open Go.RowKit
set_option linter.unusedVariables false
theorem pcJ_2 (ns : List ByteArray) (o : Nat) (N : Int) (x y : PT) (h : (opR o).1 = 2) : pcJ ns (o, N) [x, y] = (fbP (bdO o) x ++ ([], o) :: fbP (bdO o + 1) y, bdO o) := by
  have hne : ∀ c : Nat, (opR c).1 ≠ 2 → ¬ o = c := fun c hq e => hq (e ▸ h)
  unfold pcJ
  simp only
  rw [if_neg (hne 1 (by decide)), if_neg (hne 2 (by decide)), if_neg (hne 7 (by decide)), if_neg (hne 3 (by decide)), if_neg (hne 12 (by decide))]
  rfl
theorem zero_num {k : Int} {n : Node} (h : nodeOk k n) (h1 : ¬ n.1 = 1) (h2 : ¬ n.1 = 2) : n.2 = 0 := by
  have := h.2
  simpa [mayH, h1, h2] using this
/-- A right list whose root has not two parts: what its text is. -/
def Word (ns : List ByteArray) (l : List Node) (A : List UInt8) : Prop :=
  (∃ M : Nat, l = [(1, (M : Int))] ∧ A = Lib.itoa (M : Int)) ∨ (∃ M, ∃ h : M < ns.length, l = [(2, (M : Int))] ∧ A = (ns[M]'h).data.toList) ∨ (l = [(7, 0)] ∧ A = sg 7) ∨
  (∃ r t, l = (3, 0) :: r ∧ kindL (ns.length : Int) r = some t ∧ A = 45 :: cat (fbP 6 (pcL ns r))) ∨ (∃ r t, l = (12, 0) :: r ∧ kindL (ns.length : Int) r = some t ∧ A = 33 :: 40 :: (cat (pcL ns r).1 ++ [41]))
theorem parted {ns : List ByteArray} {l : List Node} {t : Nat} (h : kindL (ns.length : Int) l = some t) :
    (∃ o a b ta tb, (opR o).1 = 2 ∧ l = (o, 0) :: (a ++ b) ∧ kindL (ns.length : Int) a = some ta ∧ kindL (ns.length : Int) b = some tb ∧ pcL ns l = (fbP (bdO o) (pcL ns a) ++ ([], o) :: fbP (bdO o + 1) (pcL ns b), bdO o)) ∨ (∃ A, (pcL ns l).1 = [(A, 0)] ∧ Word ns l A) := by
  obtain ⟨n, rest, rfl, ok, hc⟩ := right_cases h
  have hin := ok_in ok
  have hnum := ok_num ok
  have hvar := ok_var ok
  have hz := zero_num ok
  obtain ⟨o, N⟩ := n
  simp only at hin hnum hvar hz
  have t5 : ∀ o : Nat, o < 15 → 1 ≤ o → ¬ (opR o).1 = 2 → o = 1 ∨ o = 2 ∨ o = 7 ∨ o = 3 ∨ o = 12 := by decide
  rcases hc with ⟨hp, rfl⟩ | ⟨hp, t1, hr⟩ | ⟨hp, a, b, ta, tb, rfl, ha, hb⟩
  · right
    have ho : (opR o).1 = 0 := hp
    rw [pcL_0 hp]
    rcases t5 o (by omega) hin.1 (by omega) with rfl | rfl | rfl | rfl | rfl
    · obtain ⟨n0, _⟩ := hnum rfl
      obtain ⟨M, rfl⟩ := Int.eq_ofNat_of_zero_le n0
      exact ⟨_, rfl, .inl ⟨M, rfl, rfl⟩⟩
    · obtain ⟨v0, v1⟩ := hvar rfl
      obtain ⟨M, rfl⟩ := Int.eq_ofNat_of_zero_le v0
      have hM : M < ns.length := by omega
      have e : ns.getD (M : Int).toNat (str []) = ns[M] := by simp [hM]
      refine ⟨(ns[M]).data.toList, ?_, .inr (.inl ⟨M, hM, rfl, rfl⟩)⟩
      show [((ns.getD (M : Int).toNat (str [])).data.toList, 0)] = _
      rw [e]
    · obtain rfl := hz (by decide) (by decide)
      exact ⟨_, rfl, .inr (.inr (.inl ⟨rfl, rfl⟩))⟩
    · cases ho
    · cases ho
  · right
    have ho : (opR o).1 = 1 := hp
    rw [pcL_1 hr hp]
    rcases t5 o (by omega) hin.1 (by omega) with rfl | rfl | rfl | rfl | rfl
    · cases ho
    · cases ho
    · cases ho
    · obtain rfl := hz (by decide) (by decide)
      exact ⟨_, rfl, .inr (.inr (.inr (.inl ⟨rest, t1, rfl, hr, rfl⟩)))⟩
    · obtain rfl := hz (by decide) (by decide)
      exact ⟨_, rfl, .inr (.inr (.inr (.inr ⟨rest, t1, rfl, hr, rfl⟩)))⟩
  · left
    have ho : (opR o).1 = 2 := hp
    have hne : ∀ c : Nat, (opR c).1 ≠ 2 → ¬ o = c := fun c hq e => hq (e ▸ ho)
    obtain rfl := hz (hne 1 (by decide)) (hne 2 (by decide))
    exact ⟨o, a, b, ta, tb, ho, rfl, ha, hb, by rw [pcL_2 ha hb hp, pcJ_2 ns o 0 _ _ ho]⟩
theorem pc_inj {ns : List ByteArray} (hns : ∀ s ∈ ns, NameOk s) (hd : ∀ i j (hi : i < ns.length) (hj : j < ns.length), ns[i]'hi = ns[j]'hj → i = j) :
    ∀ (m : Nat) (x y : List Node) (tx ty : Nat), x.length ≤ m → kindL (ns.length : Int) x = some tx → kindL (ns.length : Int) y = some ty → (pcL ns x).1 = (pcL ns y).1 → x = y
  | 0, x, y, tx, ty, hm, hx, hy, e => by
    have : x = [] := List.length_eq_zero_iff.1 (by omega)
    rw [this] at hx
    cases hx
  | m + 1, x, y, tx, ty, hm, hx, hy, e => by
    have IH := pc_inj hns hd m
    have ix := pcL_inv hns hx
    have iy := pcL_inv hns hy
    rcases parted hx with ⟨o, a, b, ta, tb, ho, rfl, ha, hb, ex⟩ | ⟨A, eA, wA⟩
    · rcases parted hy with ⟨o', a', b', ta', tb', ho', rfl, ha', hb', ey⟩ | ⟨A', eA', wA'⟩
      · have m1 : (([], o) : Piece) ∈ (pcL ns ((o', 0) :: (a' ++ b'))).1 := by rw [← e, ex]; simp
        have m2 : (([], o') : Piece) ∈ (pcL ns ((o, 0) :: (a ++ b))).1 := by rw [e, ey]; simp
        have l1 := iy.ops _ m1 (op_nz ho)
        have l2 := ix.ops _ m2 (op_nz ho')
        rw [ey] at l1
        rw [ex] at l2
        have eb : bdO o' = bdO o := Nat.le_antisymm l1 l2
        rw [ex, ey] at e
        simp only at e
        obtain ⟨r1, r2, r3⟩ := last_op _ _ _ _ o o' (bdO o) rfl eb (op_nz ho) (op_nz ho') (fb_ops (pcL_inv hns hb) _) (by rw [← eb]; exact fb_ops (pcL_inv hns hb') _) e
        subst r2
        have q1 := fb_inj (pcL_inv hns ha) (pcL_inv hns ha') _ r1
        have q2 := fb_inj (pcL_inv hns hb) (pcL_inv hns hb') _ r3
        rw [List.length_cons, List.length_append] at hm
        rw [IH a a' _ _ (by omega) ha ha' q1, IH b b' _ _ (by omega) hb hb' q2]
      · have m1 : (([], o) : Piece) ∈ [(A', 0)] := by rw [← eA', ← e, ex]; simp
        have := List.mem_singleton.1 m1
        injection this with _ q
        exact (op_nz ho q).elim
    · rcases parted hy with ⟨o', a', b', ta', tb', ho', rfl, ha', hb', ey⟩ | ⟨A', eA', wA'⟩
      · have m1 : (([], o') : Piece) ∈ [(A, 0)] := by rw [← eA, e, ey]; simp
        have := List.mem_singleton.1 m1
        injection this with _ q
        exact (op_nz ho' q).elim
      · have eq : A = A' := by
          rw [eA, eA'] at e
          injection e with e
          injection e with e
        subst eq
        have hw : ∀ M (h : M < ns.length), ∃ c r, (ns[M]'h).data.toList = c :: r ∧ 65 ≤ c.toNat := fun M h => (hns _ (List.getElem_mem h)).2.1
        rcases wA with ⟨M, rfl, e1⟩ | ⟨M, hM, rfl, e1⟩ | ⟨rfl, e1⟩ | ⟨r, t, rfl, hr, e1⟩ | ⟨r, t, rfl, hr, e1⟩
        · obtain ⟨_, _, c, cr, g3, g4⟩ := itoa_good M
          rw [g3] at e1
          unfold isDig at g4
          rcases wA' with ⟨M', rfl, e2⟩ | ⟨M', hM', rfl, e2⟩ | ⟨rfl, e2⟩ | ⟨r', t', rfl, hr', e2⟩ | ⟨r', t', rfl, hr', e2⟩
          · rw [itoa_inj M M' (by rw [g3, ← e1, e2])]
          · obtain ⟨c', r', w1, w2⟩ := hw M' hM'
            rw [e1, w1] at e2
            injection e2 with q _
            rw [q] at g4
            omega
          · rw [e1] at e2
            injection e2 with q _
            rw [q] at g4
            exact absurd g4 (by decide)
          · rw [e1] at e2
            injection e2 with q _
            rw [q] at g4
            exact absurd g4 (by decide)
          · rw [e1] at e2
            injection e2 with q _
            rw [q] at g4
            exact absurd g4 (by decide)
        · obtain ⟨c, cr, w1, w2⟩ := hw M hM
          rcases wA' with ⟨M', rfl, e2⟩ | ⟨M', hM', rfl, e2⟩ | ⟨rfl, e2⟩ | ⟨r', t', rfl, hr', e2⟩ | ⟨r', t', rfl, hr', e2⟩
          · obtain ⟨_, _, c', cr', g3, g4⟩ := itoa_good M'
            unfold isDig at g4
            rw [e1, w1, g3] at e2
            injection e2 with q _
            rw [← q] at g4
            omega
          · have : ns[M]'hM = ns[M']'hM' := by
              rw [← str_back (ns[M]'hM), ← str_back (ns[M']'hM'), ← e1, ← e2]
            rw [hd M M' hM hM' this]
          · exact ((hns _ (List.getElem_mem hM)).2.2 (by rw [← e1, e2])).elim
          · rw [e1, w1] at e2
            injection e2 with q _
            rw [q] at w2
            exact absurd w2 (by decide)
          · rw [e1, w1] at e2
            injection e2 with q _
            rw [q] at w2
            exact absurd w2 (by decide)
        · rcases wA' with ⟨M', rfl, e2⟩ | ⟨M', hM', rfl, e2⟩ | ⟨rfl, e2⟩ | ⟨r', t', rfl, hr', e2⟩ | ⟨r', t', rfl, hr', e2⟩
          · obtain ⟨_, _, c', cr', g3, g4⟩ := itoa_good M'
            unfold isDig at g4
            rw [e1, g3] at e2
            injection e2 with q _
            rw [← q] at g4
            exact absurd g4 (by decide)
          · exact ((hns _ (List.getElem_mem hM')).2.2 (by rw [← e2, e1])).elim
          · rfl
          · rw [e1] at e2
            injection e2 with q _
            exact absurd q (by decide)
          · rw [e1] at e2
            injection e2 with q _
            exact absurd q (by decide)
        · rcases wA' with ⟨M', rfl, e2⟩ | ⟨M', hM', rfl, e2⟩ | ⟨rfl, e2⟩ | ⟨r', t', rfl, hr', e2⟩ | ⟨r', t', rfl, hr', e2⟩
          · obtain ⟨_, _, c', cr', g3, g4⟩ := itoa_good M'
            unfold isDig at g4
            rw [e1, g3] at e2
            injection e2 with q _
            rw [← q] at g4
            exact absurd g4 (by decide)
          · obtain ⟨c, cr, w1, w2⟩ := hw M' hM'
            rw [e1, w1] at e2
            injection e2 with q _
            rw [← q] at w2
            exact absurd w2 (by decide)
          · rw [e1] at e2
            injection e2 with q _
            exact absurd q (by decide)
          · rw [e1] at e2
            injection e2 with _ q
            have ir := pcL_inv hns hr
            have ir' := pcL_inv hns hr'
            have := fb_inj ir ir' 6 (cat_inj _ _ (fb_wf ir 6) (fb_wf ir' 6) q)
            rw [List.length_cons] at hm
            rw [IH r r' _ _ (by omega) hr hr' this]
          · rw [e1] at e2
            injection e2 with q _
            exact absurd q (by decide)
        · rcases wA' with ⟨M', rfl, e2⟩ | ⟨M', hM', rfl, e2⟩ | ⟨rfl, e2⟩ | ⟨r', t', rfl, hr', e2⟩ | ⟨r', t', rfl, hr', e2⟩
          · obtain ⟨_, _, c', cr', g3, g4⟩ := itoa_good M'
            unfold isDig at g4
            rw [e1, g3] at e2
            injection e2 with q _
            rw [← q] at g4
            exact absurd g4 (by decide)
          · obtain ⟨c, cr, w1, w2⟩ := hw M' hM'
            rw [e1, w1] at e2
            injection e2 with q _
            rw [← q] at w2
            exact absurd w2 (by decide)
          · rw [e1] at e2
            injection e2 with q _
            exact absurd q (by decide)
          · rw [e1] at e2
            injection e2 with q _
            exact absurd q (by decide)
          · rw [e1] at e2
            injection e2 with _ q
            injection q with _ q
            have ir := pcL_inv hns hr
            have ir' := pcL_inv hns hr'
            have := cat_inj _ _ ir.wf ir'.wf (List.append_cancel_right q)
            rw [List.length_cons] at hm
            rw [IH r r' _ _ (by omega) hr hr' this]
theorem txtL_pc {ns : List ByteArray} {l : List Node} {t : Nat} (h : kindL (ns.length : Int) l = some t) : txtL ns l = toT (pcL ns l) := by
  have := stk_pc ns l (kind_nodes l _ (kindL_stk h).2) _ (pc_stk h)
  unfold txtL
  rw [fold_one _ l _ this]
  rfl
/-- Unlike right lists have unlike texts. -/
theorem print_inj {ns : List ByteArray} (hns : ∀ s ∈ ns, NameOk s) (hd : ∀ i j (hi : i < ns.length) (hj : j < ns.length), ns[i]'hi = ns[j]'hj → i = j) {a b : List Node} (ea : (printT ns a).2 = 0) (eb : (printT ns b).2 = 0) (h : (printT ns a).1 = (printT ns b).1) : a = b := by
  unfold printT at *
  cases ka : kindL (ns.length : Int) a with
  | none => rw [ka] at ea; cases ea
  | some ta =>
    cases kb : kindL (ns.length : Int) b with
    | none => rw [kb] at eb; cases eb
    | some tb =>
      rw [ka, kb] at h
      have h' : (txtL ns a).1 = (txtL ns b).1 := h
      rw [txtL_pc ka, txtL_pc kb] at h'
      have h2 : str (cat (pcL ns a).1) = str (cat (pcL ns b).1) := h'
      have h3 : cat (pcL ns a).1 = cat (pcL ns b).1 := by
        have := congrArg (fun s : ByteArray => s.data.toList) h2
        simpa using this
      exact pc_inj hns hd a.length a b ta tb (Nat.le_refl _) ka kb (cat_inj _ _ (pcL_inv hns ka).wf (pcL_inv hns kb).wf h3)
end Go.Proofs.YtmnhbokiibaopaaDoor
