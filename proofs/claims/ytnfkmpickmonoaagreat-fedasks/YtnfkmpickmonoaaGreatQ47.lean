/-
  The contracts of the document's Add, Sub, Mul, Div and Compare of fractions, for all arguments: what they answer is what the plain functions addT, subT, mulT, divT and cmpV say.
-/
import Derived.Test.YtnfkmpickmonoaaGreatQ45
import Derived.Test.YtnfkmpickmonoaaGreatQ46
import Derived.Test.YtnfkmpickmonoaaGreatQ38
namespace Go.Proofs.YtnfkmpickmonoaaGreat
open Go.RowKit Go.Shelf
set_option linter.unusedVariables false
theorem below_case (X Y : Int) (b : Bool) (h : decide (X < Y) = b) : Hid (∀ w, Calls Tryz.prog 138 #[wv X, wv Y] w fun e w' => e = .returned (.bool b) ∧ Below w.heap.size w w') := by
  subst h
  exact hideR fun w => xbelow_any X Y w
theorem dec_lt_f {a : Int} (h : ¬ a < 0) : decide (a < 0) = false ∧ 0 ≤ a := ⟨by simpa using h, by omega⟩
theorem dec_lt_t {a : Int} (h : a < 0) : a < 0 ∧ decide (0 ≤ a) = false := ⟨h, by simp; omega⟩
theorem u64_of {a : Int} (h0 : 0 ≤ a) (h1 : a ≤ 9223372036854775808) : U64 a := ⟨h0, by omega⟩
theorem askY (n d : Int) (hn : I64 n) (hd : I64 d) : AskY n d (rightR n d) := fun w => xright_any n d w hn hd
theorem xcmp_not1 (an ad bn bd : Int) (w : World) (HR : Hid (AskY an ad false)) :
    Calls Tryz.prog 121 #[rv an ad, rv bn bd] w fun e w' => e = .returned (.int .i64 0) ∧ Below w.heap.size w w' := by
  go_enter Tryz.func121, Tryz.ntmps121
  go_wp2_with fail
  refine (HR.out _).mono ?_
  rintro e w1 ⟨rfl, hb⟩
  have hB := beyond (two w _ _) hb
  go_wp2_with fail
  go_ret
  exact ⟨rfl, hB⟩
theorem xcmp_not2 (an ad bn bd : Int) (w : World) (HR : Hid (AskY an ad true)) (HR2 : Hid (AskY bn bd false)) :
    Calls Tryz.prog 121 #[rv an ad, rv bn bd] w fun e w' => e = .returned (.int .i64 0) ∧ Below w.heap.size w w' := by
  go_enter Tryz.func121, Tryz.ntmps121
  go_wp2_with fail
  refine (HR.out _).mono ?_
  rintro e w1 ⟨rfl, hb⟩
  have s0 := kc ⟨w.heap.size + 1, 0, none⟩ (.int .i64 bn) hb (by first | assumption | simp [go_sem, *])
  have s1 := kc ⟨w.heap.size + 1, 1, none⟩ (.int .i64 bd) hb (by first | assumption | simp [go_sem, *])
  have hB := beyond (two w _ _) hb
  clear hb
  go_wp2_with fail
  refine (HR2.out _).mono ?_
  rintro e w2 ⟨rfl, hb⟩
  have hB2 := beyond hB hb
  go_wp2_with fail
  go_ret
  exact ⟨rfl, hB2⟩
def cmpT (an ad bn bd : Int) : Int := if rightR an ad && rightR bn bd then cmpV an ad bn bd else 0
set_option maxHeartbeats 1000000 in
theorem xcmp_any (an ad bn bd : Int) (w : World) (ha : I64 an) (hb : I64 ad) (hc : I64 bn) (hd : I64 bd) :
    Calls Tryz.prog 121 #[rv an ad, rv bn bd] w fun e w' => e = .returned (.int .i64 (cmpT an ad bn bd)) ∧ Below w.heap.size w w' := by
  have ka := askY an ad ha hb
  have kb := askY bn bd hc hd
  cases ra : rightR an ad
  · rw [ra] at ka
    have e : cmpT an ad bn bd = 0 := by simp [cmpT, ra]
    rw [e]
    exact xcmp_not1 an ad bn bd w ka
  · rw [ra] at ka
    cases rb : rightR bn bd
    · rw [rb] at kb
      have e : cmpT an ad bn bd = 0 := by simp [cmpT, rb]
      rw [e]
      exact xcmp_not2 an ad bn bd w ka kb
    · rw [rb] at kb
      have pa := (right_iff.1 ra).1
      have pb := (right_iff.1 rb).1
      have s1 := sz_bd an ha.1 ha.2
      have s2 := sz_bd bn hc.1 hc.2
      have a1 : ad ≤ 9223372036854775808 := by have := hb.2; omega
      have b1 : bd ≤ 9223372036854775808 := by have := hd.2; omega
      have e : cmpT an ad bn bd = cmpV an ad bn bd := by simp [cmpT, ra, rb]
      rw [e]
      refine xcompare_raw an ad bn bd (sz an) (sz bn) _ _ _ _ _ w (sz_pos_eq ad (Int.le_of_lt pa) hb.2) (sz_pos_eq bd (Int.le_of_lt pb) hd.2) ka kb (fun w => xsize_any an w ha.1 ha.2) (fun w => xsize_any bn w hc.1 hc.2) (fun w => xmul_any (sz an) bd w (u64_of s1.1 s1.2) (u64_of (Int.le_of_lt pb) b1)) (fun w => xmul_any (sz bn) ad w (u64_of s2.1 s2.2) (u64_of (Int.le_of_lt pa) a1)) (hideR ?_)
      have gX : an < 0 → an * bd < 0 := fun c => Int.mul_neg_of_neg_of_pos c pb
      have gX' : ¬ an < 0 → 0 ≤ an * bd := fun c => Int.mul_nonneg (by omega) (Int.le_of_lt pb)
      have gY : bn < 0 → bn * ad < 0 := fun c => Int.mul_neg_of_neg_of_pos c pa
      have gY' : ¬ bn < 0 → 0 ≤ bn * ad := fun c => Int.mul_nonneg (by omega) (Int.le_of_lt pa)
      have eX : ¬ an < 0 → sz an * bd = an * bd := fun c => by rw [sz_pos (by omega)]
      have eX' : an < 0 → sz an * bd = -(an * bd) := fun c => by rw [show sz an = -an by simp [sz, c], Int.neg_mul]
      have eY : ¬ bn < 0 → sz bn * ad = bn * ad := fun c => by rw [sz_pos (by omega)]
      have eY' : bn < 0 → sz bn * ad = -(bn * ad) := fun c => by rw [show sz bn = -bn by simp [sz, c], Int.neg_mul]
      unfold cmpV
      generalize sz an * bd = X at *
      generalize sz bn * ad = Y at *
      generalize an * bd = p at *
      generalize bn * ad = q at *
      by_cases c1 : an < 0 <;> by_cases c2 : bn < 0
      · have u := eX' c1
        have v := eY' c2
        by_cases l : Y < X
        · exact Or.inr (Or.inr (Or.inr (Or.inr (Or.inr (Or.inl ⟨(dec_lt_t c1).1, (dec_lt_t c1).2, (dec_lt_t c2).1, (dec_lt_t c2).2, below_case Y X true (by simpa using l), by rw [if_pos (by omega)]⟩)))))
        · by_cases k : X < Y
          · exact Or.inr (Or.inr (Or.inr (Or.inr (Or.inr (Or.inr (Or.inl ⟨(dec_lt_t c1).1, (dec_lt_t c1).2, (dec_lt_t c2).1, (dec_lt_t c2).2, below_case Y X false (by simpa using l), below_case X Y true (by simpa using k), by rw [if_neg (by omega), if_pos (by omega)]⟩))))))
          · exact Or.inr (Or.inr (Or.inr (Or.inr (Or.inr (Or.inr (Or.inr ⟨(dec_lt_t c1).1, (dec_lt_t c1).2, (dec_lt_t c2).1, (dec_lt_t c2).2, below_case Y X false (by simpa using l), below_case X Y false (by simpa using k), by rw [if_neg (by omega), if_neg (by omega)]⟩))))))
      · have u := gX c1
        have v := gY' c2
        exact Or.inl ⟨(dec_lt_t c1).1, (dec_lt_t c1).2, (dec_lt_f c2).1, (dec_lt_f c2).2, by rw [if_pos (by omega)]⟩
      · have u := gX' c1
        have v := gY c2
        exact Or.inr (Or.inl ⟨(dec_lt_f c1).1, (dec_lt_f c1).2, (dec_lt_t c2).1, (dec_lt_t c2).2, by rw [if_neg (by omega), if_pos (by omega)]⟩)
      · have u := eX c1
        have v := eY c2
        by_cases l : X < Y
        · exact Or.inr (Or.inr (Or.inl ⟨(dec_lt_f c1).1, (dec_lt_f c1).2, (dec_lt_f c2).1, (dec_lt_f c2).2, below_case X Y true (by simpa using l), by rw [if_pos (by omega)]⟩))
        · by_cases k : Y < X
          · exact Or.inr (Or.inr (Or.inr (Or.inl ⟨(dec_lt_f c1).1, (dec_lt_f c1).2, (dec_lt_f c2).1, (dec_lt_f c2).2, below_case X Y false (by simpa using l), below_case Y X true (by simpa using k), by rw [if_neg (by omega), if_pos (by omega)]⟩)))
          · exact Or.inr (Or.inr (Or.inr (Or.inr (Or.inl ⟨(dec_lt_f c1).1, (dec_lt_f c1).2, (dec_lt_f c2).1, (dec_lt_f c2).2, below_case X Y false (by simpa using l), below_case Y X false (by simpa using k), by rw [if_neg (by omega), if_neg (by omega)]⟩))))
end Go.Proofs.YtnfkmpickmonoaaGreat
