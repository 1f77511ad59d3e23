/-
  The contracts of the document's Add, Sub, Mul, Div and Compare of fractions, for all arguments: what they answer is what the plain functions addT, subT, mulT, divT and cmpV say.
-/
import Derived.Test.YtnhopmoboahlgaaDoorXi
import Derived.Test.YtnhopmoboahlgaaDoorXj
import Derived.Test.YtnhopmoboahlgaaDoorXk
import Derived.Test.YtnhopmoboahlgaaDoorVf
namespace Go.Proofs.YtnhopmoboahlgaaDoor
open Go.RowKit Go.Shelf
set_option linter.unusedVariables false
theorem bd_mul {a b : Int} (a0 : 0 ≤ a) (a1 : a ≤ 9223372036854775808) (b0 : 0 ≤ b) (b1 : b ≤ 9223372036854775808) : 0 ≤ a * b ∧ a * b ≤ 85070591730234615865843651857942052864 := by
  refine ⟨Int.mul_nonneg a0 b0, ?_⟩
  have h := Int.mul_le_mul a1 b1 b0 (by decide)
  have e : (9223372036854775808 : Int) * 9223372036854775808 = 85070591730234615865843651857942052864 := by decide
  omega
abbrev CallsP (f : FuncId) (X Y Z : Int) : Prop := ∀ w, Calls Tryd.prog f #[wv X, wv Y] w fun e w' => e = .returned (wv Z) ∧ Below w.heap.size w w'
abbrev CallsH (g : Bool) (X D : Int) (t : Int × Int × Int) : Prop := ∀ w, Calls Tryd.prog 38 #[.bool g, wv X, wv D] w fun e w' => e = .returned (trip t) ∧ Below w.heap.size w w'
theorem plus_case (X Y D P : Int) (g : Bool) (x0 : 0 ≤ X) (x1 : X ≤ 85070591730234615865843651857942052864) (y0 : 0 ≤ Y) (y1 : Y ≤ 85070591730234615865843651857942052864) (d0 : 0 < D) (d1 : D ≤ 85070591730234615865843651857942052864) (e : sgn (X + Y) g = P) :
    Hid (CallsP 69 X Y (X + Y)) ∧ Hid (CallsH g (X + Y) D (canR P D)) := by
  subst e
  exact ⟨hideR fun w => xplus_any X Y w ⟨x0, by omega⟩ ⟨y0, by omega⟩ ⟨by omega, by omega⟩, hideR fun w => xheld_can g (X + Y) D w ⟨by omega, by omega⟩ ⟨by omega, by omega⟩ d0⟩
theorem minus_case (X Y D P : Int) (g : Bool) (x0 : 0 ≤ X) (x1 : X ≤ 85070591730234615865843651857942052864) (y0 : 0 ≤ Y) (h : Y ≤ X) (d0 : 0 < D) (d1 : D ≤ 85070591730234615865843651857942052864) (e : sgn (X - Y) g = P) :
    Hid (CallsP 70 X Y (X - Y)) ∧ Hid (CallsH g (X - Y) D (canR P D)) := by
  subst e
  have m : (X - Y) % 340282366920938463463374607431768211456 = X - Y := by omega
  refine ⟨hideR fun w => ?_, hideR fun w => xheld_can g (X - Y) D w ⟨by omega, by omega⟩ ⟨by omega, by omega⟩ d0⟩
  have c := xminus_any X Y w ⟨x0, by omega⟩ ⟨y0, by omega⟩
  rw [m] at c
  exact c
theorem below_case (X Y : Int) (b : Bool) (h : decide (X < Y) = b) : Hid (∀ w, Calls Tryd.prog 53 #[wv X, wv Y] w fun e w' => e = .returned (.bool b) ∧ Below w.heap.size w w') := by
  subst h
  exact hideR fun w => xbelow_any X Y w
theorem dec_lt_f {a : Int} (h : ¬ a < 0) : decide (a < 0) = false ∧ 0 ≤ a := ⟨by simpa using h, by omega⟩
theorem dec_lt_t {a : Int} (h : a < 0) : a < 0 ∧ decide (0 ≤ a) = false := ⟨h, by simp; omega⟩
theorem u64_of {a : Int} (h0 : 0 ≤ a) (h1 : a ≤ 9223372036854775808) : U64 a := ⟨h0, by omega⟩
set_option maxHeartbeats 1000000 in
theorem xsum_any (an ad bn bd : Int) (w : World) (ha : I64 an) (hb : I64 ad) (hc : I64 bn) (hd : I64 bd) (pa : 0 < ad) (pb : 0 < bd) :
    Calls Tryd.prog 45 #[rv an ad, rv bn bd] w fun e w' => e = .returned (trip (canR (an * bd + bn * ad) (ad * bd))) ∧ Below w.heap.size w w' := by
  have s1 := sz_bd an ha.1 ha.2
  have s2 := sz_bd bn hc.1 hc.2
  have a1 : ad ≤ 9223372036854775808 := by have := hb.2; omega
  have b1 : bd ≤ 9223372036854775808 := by have := hd.2; omega
  obtain ⟨x0, x1⟩ := bd_mul s1.1 s1.2 (Int.le_of_lt pb) b1
  obtain ⟨y0, y1⟩ := bd_mul s2.1 s2.2 (Int.le_of_lt pa) a1
  obtain ⟨-, d1⟩ := bd_mul (Int.le_of_lt pa) a1 (Int.le_of_lt pb) b1
  have d0 := Int.mul_pos pa pb
  refine xsum_raw an ad bn bd (sz an) (sz bn) _ _ _ _ _ _ _ w (sz_pos_eq ad (Int.le_of_lt pa) hb.2) (sz_pos_eq bd (Int.le_of_lt pb) hd.2) (fun w => xsize_any an w ha.1 ha.2) (fun w => xsize_any bn w hc.1 hc.2) (fun w => xmul_any (sz an) bd w (u64_of s1.1 s1.2) (u64_of (Int.le_of_lt pb) b1)) (fun w => xmul_any (sz bn) ad w (u64_of s2.1 s2.2) (u64_of (Int.le_of_lt pa) a1)) (fun w => xmul_any ad bd w (u64_of (Int.le_of_lt pa) a1) (u64_of (Int.le_of_lt pb) b1)) (hideR ?_)
  have eX : ¬ an < 0 → sz an * bd = an * bd := fun c => by rw [sz_pos (by omega)]
  have eX' : an < 0 → sz an * bd = -(an * bd) := fun c => by rw [show sz an = -an by simp [sz, c], Int.neg_mul]
  have eY : ¬ bn < 0 → sz bn * ad = bn * ad := fun c => by rw [sz_pos (by omega)]
  have eY' : bn < 0 → sz bn * ad = -(bn * ad) := fun c => by rw [show sz bn = -bn by simp [sz, c], Int.neg_mul]
  generalize sz an * bd = X at *
  generalize sz bn * ad = Y at *
  generalize an * bd = p at *
  generalize bn * ad = q at *
  generalize ad * bd = D at *
  by_cases c1 : an < 0 <;> by_cases c2 : bn < 0
  · obtain ⟨P, H⟩ := plus_case X Y D (p + q) true x0 x1 y0 y1 d0 d1 (by simp only [sgn]; have := eX' c1; have := eY' c2; simp only [if_true]; omega)
    exact Or.inl ⟨_, _, (dec_lt_t c1).1, (dec_lt_t c1).2, (dec_lt_t c2).1, (dec_lt_t c2).2, P, H⟩
  · have u := eX' c1
    have v := eY c2
    by_cases l : X < Y
    · obtain ⟨P, H⟩ := minus_case Y X D (p + q) false y0 y1 x0 (by omega) d0 d1 (by show Y - X = _; omega)
      exact Or.inr (Or.inr (Or.inl ⟨_, _, (dec_lt_t c1).1, (dec_lt_t c1).2, (dec_lt_f c2).1, (dec_lt_f c2).2, below_case X Y true (by simpa using l), P, H⟩))
    · obtain ⟨P, H⟩ := minus_case X Y D (p + q) true x0 x1 y0 (by omega) d0 d1 (by show -(X - Y) = _; omega)
      exact Or.inr (Or.inr (Or.inr (Or.inl ⟨_, _, (dec_lt_t c1).1, (dec_lt_t c1).2, (dec_lt_f c2).1, (dec_lt_f c2).2, below_case X Y false (by simpa using l), P, H⟩)))
  · have u := eX c1
    have v := eY' c2
    by_cases l : X < Y
    · obtain ⟨P, H⟩ := minus_case Y X D (p + q) true y0 y1 x0 (by omega) d0 d1 (by show -(Y - X) = _; omega)
      exact Or.inr (Or.inr (Or.inr (Or.inr (Or.inl ⟨_, _, (dec_lt_f c1).1, (dec_lt_f c1).2, (dec_lt_t c2).1, (dec_lt_t c2).2, below_case X Y true (by simpa using l), P, H⟩))))
    · obtain ⟨P, H⟩ := minus_case X Y D (p + q) false x0 x1 y0 (by omega) d0 d1 (by show X - Y = _; omega)
      exact Or.inr (Or.inr (Or.inr (Or.inr (Or.inr ⟨_, _, (dec_lt_f c1).1, (dec_lt_f c1).2, (dec_lt_t c2).1, (dec_lt_t c2).2, below_case X Y false (by simpa using l), P, H⟩))))
  · obtain ⟨P, H⟩ := plus_case X Y D (p + q) false x0 x1 y0 y1 d0 d1 (by show X + Y = _; have := eX c1; have := eY c2; omega)
    exact Or.inr (Or.inl ⟨_, _, (dec_lt_f c1).1, (dec_lt_f c1).2, (dec_lt_f c2).1, (dec_lt_f c2).2, P, H⟩)
set_option maxHeartbeats 1000000 in
theorem xless_any (an ad bn bd : Int) (w : World) (ha : I64 an) (hb : I64 ad) (hc : I64 bn) (hd : I64 bd) (pa : 0 < ad) (pb : 0 < bd) :
    Calls Tryd.prog 47 #[rv an ad, rv bn bd] w fun e w' => e = .returned (trip (canR (an * bd - bn * ad) (ad * bd))) ∧ Below w.heap.size w w' := by
  have s1 := sz_bd an ha.1 ha.2
  have s2 := sz_bd bn hc.1 hc.2
  have a1 : ad ≤ 9223372036854775808 := by have := hb.2; omega
  have b1 : bd ≤ 9223372036854775808 := by have := hd.2; omega
  obtain ⟨x0, x1⟩ := bd_mul s1.1 s1.2 (Int.le_of_lt pb) b1
  obtain ⟨y0, y1⟩ := bd_mul s2.1 s2.2 (Int.le_of_lt pa) a1
  obtain ⟨-, d1⟩ := bd_mul (Int.le_of_lt pa) a1 (Int.le_of_lt pb) b1
  have d0 := Int.mul_pos pa pb
  refine xless_raw an ad bn bd (sz an) (sz bn) _ _ _ _ _ _ _ w (sz_pos_eq ad (Int.le_of_lt pa) hb.2) (sz_pos_eq bd (Int.le_of_lt pb) hd.2) (fun w => xsize_any an w ha.1 ha.2) (fun w => xsize_any bn w hc.1 hc.2) (fun w => xmul_any (sz an) bd w (u64_of s1.1 s1.2) (u64_of (Int.le_of_lt pb) b1)) (fun w => xmul_any (sz bn) ad w (u64_of s2.1 s2.2) (u64_of (Int.le_of_lt pa) a1)) (fun w => xmul_any ad bd w (u64_of (Int.le_of_lt pa) a1) (u64_of (Int.le_of_lt pb) b1)) (hideR ?_)
  have eX : ¬ an < 0 → sz an * bd = an * bd := fun c => by rw [sz_pos (by omega)]
  have eX' : an < 0 → sz an * bd = -(an * bd) := fun c => by rw [show sz an = -an by simp [sz, c], Int.neg_mul]
  have eY : ¬ bn < 0 → sz bn * ad = bn * ad := fun c => by rw [sz_pos (by omega)]
  have eY' : bn < 0 → sz bn * ad = -(bn * ad) := fun c => by rw [show sz bn = -bn by simp [sz, c], Int.neg_mul]
  generalize sz an * bd = X at *
  generalize sz bn * ad = Y at *
  generalize an * bd = p at *
  generalize bn * ad = q at *
  generalize ad * bd = D at *
  by_cases c1 : an < 0 <;> by_cases c2 : bn < 0
  · have u := eX' c1
    have v := eY' c2
    by_cases l : X < Y
    · obtain ⟨P, H⟩ := minus_case Y X D (p - q) false y0 y1 x0 (by omega) d0 d1 (by show Y - X = _; omega)
      exact Or.inr (Or.inr (Or.inl ⟨_, _, (dec_lt_t c1).1, (dec_lt_t c1).2, (dec_lt_t c2).1, (dec_lt_t c2).2, below_case X Y true (by simpa using l), P, H⟩))
    · obtain ⟨P, H⟩ := minus_case X Y D (p - q) true x0 x1 y0 (by omega) d0 d1 (by show -(X - Y) = _; omega)
      exact Or.inr (Or.inr (Or.inr (Or.inl ⟨_, _, (dec_lt_t c1).1, (dec_lt_t c1).2, (dec_lt_t c2).1, (dec_lt_t c2).2, below_case X Y false (by simpa using l), P, H⟩)))
  · obtain ⟨P, H⟩ := plus_case X Y D (p - q) true x0 x1 y0 y1 d0 d1 (by show -(X + Y) = _; have := eX' c1; have := eY c2; omega)
    exact Or.inl ⟨_, _, (dec_lt_t c1).1, (dec_lt_t c1).2, (dec_lt_f c2).1, (dec_lt_f c2).2, P, H⟩
  · obtain ⟨P, H⟩ := plus_case X Y D (p - q) false x0 x1 y0 y1 d0 d1 (by show X + Y = _; have := eX c1; have := eY' c2; omega)
    exact Or.inr (Or.inl ⟨_, _, (dec_lt_f c1).1, (dec_lt_f c1).2, (dec_lt_t c2).1, (dec_lt_t c2).2, P, H⟩)
  · have u := eX c1
    have v := eY c2
    by_cases l : X < Y
    · obtain ⟨P, H⟩ := minus_case Y X D (p - q) true y0 y1 x0 (by omega) d0 d1 (by show -(Y - X) = _; omega)
      exact Or.inr (Or.inr (Or.inr (Or.inr (Or.inl ⟨_, _, (dec_lt_f c1).1, (dec_lt_f c1).2, (dec_lt_f c2).1, (dec_lt_f c2).2, below_case X Y true (by simpa using l), P, H⟩))))
    · obtain ⟨P, H⟩ := minus_case X Y D (p - q) false x0 x1 y0 (by omega) d0 d1 (by show X - Y = _; omega)
      exact Or.inr (Or.inr (Or.inr (Or.inr (Or.inr ⟨_, _, (dec_lt_f c1).1, (dec_lt_f c1).2, (dec_lt_f c2).1, (dec_lt_f c2).2, below_case X Y false (by simpa using l), P, H⟩))))
theorem askY (n d : Int) (hn : I64 n) (hd : I64 d) : AskY n d (rightR n d) := fun w => xright_any n d w hn hd
theorem xadd_any (an ad bn bd : Int) (w : World) (ha : I64 an) (hb : I64 ad) (hc : I64 bn) (hd : I64 bd) :
    Calls Tryd.prog 15 #[rv an ad, rv bn bd] w fun e w' => e = .returned (trip (addT an ad bn bd)) ∧ Below w.heap.size w w' := by
  have ka := askY an ad ha hb
  have kb := askY bn bd hc hd
  cases ra : rightR an ad
  · rw [ra] at ka
    have e : addT an ad bn bd = (0, 0, 7) := by simp [addT, ra]
    rw [e]
    exact xadd_not1 an ad bn bd w ka
  · rw [ra] at ka
    cases rb : rightR bn bd
    · rw [rb] at kb
      have e : addT an ad bn bd = (0, 0, 7) := by simp [addT, rb]
      rw [e]
      exact xadd_not2 an ad bn bd w ka kb
    · rw [rb] at kb
      have e : addT an ad bn bd = canR (an * bd + bn * ad) (ad * bd) := by simp [addT, ra, rb]
      rw [e]
      exact xadd_yes an ad bn bd _ w ka kb (fun w => xsum_any an ad bn bd w ha hb hc hd (right_iff.1 ra).1 (right_iff.1 rb).1)
theorem xsub_any (an ad bn bd : Int) (w : World) (ha : I64 an) (hb : I64 ad) (hc : I64 bn) (hd : I64 bd) :
    Calls Tryd.prog 17 #[rv an ad, rv bn bd] w fun e w' => e = .returned (trip (subT an ad bn bd)) ∧ Below w.heap.size w w' := by
  have ka := askY an ad ha hb
  have kb := askY bn bd hc hd
  cases ra : rightR an ad
  · rw [ra] at ka
    have e : subT an ad bn bd = (0, 0, 7) := by simp [subT, ra]
    rw [e]
    exact xsub_not1 an ad bn bd w ka
  · rw [ra] at ka
    cases rb : rightR bn bd
    · rw [rb] at kb
      have e : subT an ad bn bd = (0, 0, 7) := by simp [subT, rb]
      rw [e]
      exact xsub_not2 an ad bn bd w ka kb
    · rw [rb] at kb
      have e : subT an ad bn bd = canR (an * bd - bn * ad) (ad * bd) := by simp [subT, ra, rb]
      rw [e]
      exact xsub_yes an ad bn bd _ w ka kb (fun w => xless_any an ad bn bd w ha hb hc hd (right_iff.1 ra).1 (right_iff.1 rb).1)
theorem xmulr_any (an ad bn bd : Int) (w : World) (ha : I64 an) (hb : I64 ad) (hc : I64 bn) (hd : I64 bd) :
    Calls Tryd.prog 19 #[rv an ad, rv bn bd] w fun e w' => e = .returned (trip (mulT an ad bn bd)) ∧ Below w.heap.size w w' := by
  have ka := askY an ad ha hb
  have kb := askY bn bd hc hd
  cases ra : rightR an ad
  · rw [ra] at ka
    have e : mulT an ad bn bd = (0, 0, 7) := by simp [mulT, ra]
    rw [e]
    exact xmulr_not1 an ad bn bd w ka
  · rw [ra] at ka
    cases rb : rightR bn bd
    · rw [rb] at kb
      have e : mulT an ad bn bd = (0, 0, 7) := by simp [mulT, rb]
      rw [e]
      exact xmulr_not2 an ad bn bd w ka kb
    · rw [rb] at kb
      have pa := (right_iff.1 ra).1
      have pb := (right_iff.1 rb).1
      have s1 := sz_bd an ha.1 ha.2
      have s2 := sz_bd bn hc.1 hc.2
      have a1 : ad ≤ 9223372036854775808 := by have := hb.2; omega
      have b1 : bd ≤ 9223372036854775808 := by have := hd.2; omega
      obtain ⟨x0, x1⟩ := bd_mul s1.1 s1.2 s2.1 s2.2
      obtain ⟨-, d1⟩ := bd_mul (Int.le_of_lt pa) a1 (Int.le_of_lt pb) b1
      have d0 := Int.mul_pos pa pb
      have e : mulT an ad bn bd = canR (sgn (sz an * sz bn) (decide (an < 0) != decide (bn < 0))) (ad * bd) := by
        unfold mulT
        rw [ra, rb, sgn_two, sgn_sz, sgn_sz]
        rfl
      rw [e]
      exact xmulr_yes an ad bn bd (sz an) (sz bn) _ _ _ _ _ _ _ w rfl rfl (sz_pos_eq ad (Int.le_of_lt pa) hb.2) (sz_pos_eq bd (Int.le_of_lt pb) hd.2) ka kb (fun w => xsize_any an w ha.1 ha.2) (fun w => xsize_any bn w hc.1 hc.2) (fun w => xmul_any (sz an) (sz bn) w (u64_of s1.1 s1.2) (u64_of s2.1 s2.2)) (fun w => xmul_any ad bd w (u64_of (Int.le_of_lt pa) a1) (u64_of (Int.le_of_lt pb) b1)) (fun w => xheld_can _ (sz an * sz bn) (ad * bd) w ⟨x0, by omega⟩ ⟨by omega, by omega⟩ d0)
theorem xdivr_any (an ad bn bd : Int) (w : World) (ha : I64 an) (hb : I64 ad) (hc : I64 bn) (hd : I64 bd) :
    Calls Tryd.prog 21 #[rv an ad, rv bn bd] w fun e w' => e = .returned (trip (divT an ad bn bd)) ∧ Below w.heap.size w w' := by
  have ka := askY an ad ha hb
  have kb := askY bn bd hc hd
  cases ra : rightR an ad
  · rw [ra] at ka
    have e : divT an ad bn bd = (0, 0, 7) := by simp [divT, ra]
    rw [e]
    exact xdivr_not1 an ad bn bd w ka
  · rw [ra] at ka
    cases rb : rightR bn bd
    · rw [rb] at kb
      have e : divT an ad bn bd = (0, 0, 7) := by simp [divT, rb]
      rw [e]
      exact xdivr_not2 an ad bn bd w ka kb
    · rw [rb] at kb
      have pa := (right_iff.1 ra).1
      have pb := (right_iff.1 rb).1
      have s1 := sz_bd an ha.1 ha.2
      have s2 := sz_bd bn hc.1 hc.2
      have a1 : ad ≤ 9223372036854775808 := by have := hb.2; omega
      have b1 : bd ≤ 9223372036854775808 := by have := hd.2; omega
      obtain ⟨x0, x1⟩ := bd_mul s1.1 s1.2 (Int.le_of_lt pb) b1
      obtain ⟨d0, d1⟩ := bd_mul (Int.le_of_lt pa) a1 s2.1 s2.2
      refine xdivr_yes an ad bn bd (sz an) (sz bn) _ _ _ _ _ _ _ w rfl rfl (sz_pos_eq ad (Int.le_of_lt pa) hb.2) (sz_pos_eq bd (Int.le_of_lt pb) hd.2) ka kb (fun w => xsize_any an w ha.1 ha.2) (fun w => xsize_any bn w hc.1 hc.2) (fun w => xmul_any (sz an) bd w (u64_of s1.1 s1.2) (u64_of (Int.le_of_lt pb) b1)) (fun w => xmul_any ad (sz bn) w (u64_of (Int.le_of_lt pa) a1) (u64_of s2.1 s2.2)) (hideR fun w => ?_)
      by_cases z : bn = 0
      · subst z
        have e : divT an ad 0 bd = (0, 0, 21) := by simp [divT, ra, rb]
        have e2 : ad * sz 0 = 0 := by simp [sz]
        rw [e, e2]
        exact xheld_zero _ _ _ w
      · have p : 0 < sz bn := by unfold sz; split <;> omega
        have e : divT an ad bn bd = canR (sgn (sz an * bd) (decide (an < 0) != decide (bn < 0))) (ad * sz bn) := by
          have e : divT an ad bn bd = canR (an * sgn bd (decide (bn < 0))) (ad * sz bn) := by simp [divT, ra, rb, z]
          rw [e, sgn_two, sgn_sz]
        rw [e]
        exact xheld_can _ (sz an * bd) (ad * sz bn) w ⟨x0, by omega⟩ ⟨by omega, by omega⟩ (Int.mul_pos pa p)
theorem xcmp_not1 (an ad bn bd : Int) (w : World) (HR : Hid (AskY an ad false)) :
    Calls Tryd.prog 23 #[rv an ad, rv bn bd] w fun e w' => e = .returned (.int .i64 0) ∧ Below w.heap.size w w' := by
  go_enter Tryd.func23, Tryd.ntmps23
  go_wp2_with fail
  refine (HR.out _).mono ?_
  rintro e w1 ⟨rfl, hb⟩
  have hB := beyond (two w _ _) hb
  go_wp2_with fail
  go_ret
  exact ⟨rfl, hB⟩
theorem xcmp_not2 (an ad bn bd : Int) (w : World) (HR : Hid (AskY an ad true)) (HR2 : Hid (AskY bn bd false)) :
    Calls Tryd.prog 23 #[rv an ad, rv bn bd] w fun e w' => e = .returned (.int .i64 0) ∧ Below w.heap.size w w' := by
  go_enter Tryd.func23, Tryd.ntmps23
  go_wp2_with fail
  refine (HR.out _).mono ?_
  rintro e w1 ⟨rfl, hb⟩
  have s0 := kc ⟨w.heap.size + 1, 0, none⟩ (.int .i64 bn) hb (by first | assumption | simp [go_sem, *])
  have s1 := kc ⟨w.heap.size + 1, 1, none⟩ (.int .i64 bd) hb (by first | assumption | simp [go_sem, *])
  have hB := beyond (two w _ _) hb
  clear hb
  go_wp2_with fail
  refine (HR2.out _).mono ?_
  rintro e w2 ⟨rfl, hb⟩
  have hB2 := beyond hB hb
  go_wp2_with fail
  go_ret
  exact ⟨rfl, hB2⟩
def cmpT (an ad bn bd : Int) : Int := if rightR an ad && rightR bn bd then cmpV an ad bn bd else 0
set_option maxHeartbeats 1000000 in
theorem xcmp_any (an ad bn bd : Int) (w : World) (ha : I64 an) (hb : I64 ad) (hc : I64 bn) (hd : I64 bd) :
    Calls Tryd.prog 23 #[rv an ad, rv bn bd] w fun e w' => e = .returned (.int .i64 (cmpT an ad bn bd)) ∧ Below w.heap.size w w' := by
  have ka := askY an ad ha hb
  have kb := askY bn bd hc hd
  cases ra : rightR an ad
  · rw [ra] at ka
    have e : cmpT an ad bn bd = 0 := by simp [cmpT, ra]
    rw [e]
    exact xcmp_not1 an ad bn bd w ka
  · rw [ra] at ka
    cases rb : rightR bn bd
    · rw [rb] at kb
      have e : cmpT an ad bn bd = 0 := by simp [cmpT, rb]
      rw [e]
      exact xcmp_not2 an ad bn bd w ka kb
    · rw [rb] at kb
      have pa := (right_iff.1 ra).1
      have pb := (right_iff.1 rb).1
      have s1 := sz_bd an ha.1 ha.2
      have s2 := sz_bd bn hc.1 hc.2
      have a1 : ad ≤ 9223372036854775808 := by have := hb.2; omega
      have b1 : bd ≤ 9223372036854775808 := by have := hd.2; omega
      have e : cmpT an ad bn bd = cmpV an ad bn bd := by simp [cmpT, ra, rb]
      rw [e]
      refine xcompare_raw an ad bn bd (sz an) (sz bn) _ _ _ _ _ w (sz_pos_eq ad (Int.le_of_lt pa) hb.2) (sz_pos_eq bd (Int.le_of_lt pb) hd.2) ka kb (fun w => xsize_any an w ha.1 ha.2) (fun w => xsize_any bn w hc.1 hc.2) (fun w => xmul_any (sz an) bd w (u64_of s1.1 s1.2) (u64_of (Int.le_of_lt pb) b1)) (fun w => xmul_any (sz bn) ad w (u64_of s2.1 s2.2) (u64_of (Int.le_of_lt pa) a1)) (hideR ?_)
      have gX : an < 0 → an * bd < 0 := fun c => Int.mul_neg_of_neg_of_pos c pb
      have gX' : ¬ an < 0 → 0 ≤ an * bd := fun c => Int.mul_nonneg (by omega) (Int.le_of_lt pb)
      have gY : bn < 0 → bn * ad < 0 := fun c => Int.mul_neg_of_neg_of_pos c pa
      have gY' : ¬ bn < 0 → 0 ≤ bn * ad := fun c => Int.mul_nonneg (by omega) (Int.le_of_lt pa)
      have eX : ¬ an < 0 → sz an * bd = an * bd := fun c => by rw [sz_pos (by omega)]
      have eX' : an < 0 → sz an * bd = -(an * bd) := fun c => by rw [show sz an = -an by simp [sz, c], Int.neg_mul]
      have eY : ¬ bn < 0 → sz bn * ad = bn * ad := fun c => by rw [sz_pos (by omega)]
      have eY' : bn < 0 → sz bn * ad = -(bn * ad) := fun c => by rw [show sz bn = -bn by simp [sz, c], Int.neg_mul]
      unfold cmpV
      generalize sz an * bd = X at *
      generalize sz bn * ad = Y at *
      generalize an * bd = p at *
      generalize bn * ad = q at *
      by_cases c1 : an < 0 <;> by_cases c2 : bn < 0
      · have u := eX' c1
        have v := eY' c2
        by_cases l : Y < X
        · exact Or.inr (Or.inr (Or.inr (Or.inr (Or.inr (Or.inl ⟨(dec_lt_t c1).1, (dec_lt_t c1).2, (dec_lt_t c2).1, (dec_lt_t c2).2, below_case Y X true (by simpa using l), by rw [if_pos (by omega)]⟩)))))
        · by_cases k : X < Y
          · exact Or.inr (Or.inr (Or.inr (Or.inr (Or.inr (Or.inr (Or.inl ⟨(dec_lt_t c1).1, (dec_lt_t c1).2, (dec_lt_t c2).1, (dec_lt_t c2).2, below_case Y X false (by simpa using l), below_case X Y true (by simpa using k), by rw [if_neg (by omega), if_pos (by omega)]⟩))))))
          · exact Or.inr (Or.inr (Or.inr (Or.inr (Or.inr (Or.inr (Or.inr ⟨(dec_lt_t c1).1, (dec_lt_t c1).2, (dec_lt_t c2).1, (dec_lt_t c2).2, below_case Y X false (by simpa using l), below_case X Y false (by simpa using k), by rw [if_neg (by omega), if_neg (by omega)]⟩))))))
      · have u := gX c1
        have v := gY' c2
        exact Or.inl ⟨(dec_lt_t c1).1, (dec_lt_t c1).2, (dec_lt_f c2).1, (dec_lt_f c2).2, by rw [if_pos (by omega)]⟩
      · have u := gX' c1
        have v := gY c2
        exact Or.inr (Or.inl ⟨(dec_lt_f c1).1, (dec_lt_f c1).2, (dec_lt_t c2).1, (dec_lt_t c2).2, by rw [if_neg (by omega), if_pos (by omega)]⟩)
      · have u := eX c1
        have v := eY c2
        by_cases l : X < Y
        · exact Or.inr (Or.inr (Or.inl ⟨(dec_lt_f c1).1, (dec_lt_f c1).2, (dec_lt_f c2).1, (dec_lt_f c2).2, below_case X Y true (by simpa using l), by rw [if_pos (by omega)]⟩))
        · by_cases k : Y < X
          · exact Or.inr (Or.inr (Or.inr (Or.inl ⟨(dec_lt_f c1).1, (dec_lt_f c1).2, (dec_lt_f c2).1, (dec_lt_f c2).2, below_case X Y false (by simpa using l), below_case Y X true (by simpa using k), by rw [if_neg (by omega), if_pos (by omega)]⟩)))
          · exact Or.inr (Or.inr (Or.inr (Or.inr (Or.inl ⟨(dec_lt_f c1).1, (dec_lt_f c1).2, (dec_lt_f c2).1, (dec_lt_f c2).2, below_case X Y false (by simpa using l), below_case Y X false (by simpa using k), by rw [if_neg (by omega), if_neg (by omega)]⟩))))
theorem rcmp_any (an ad bn bd : Int) (w : World) (ha : I64 an) (hb : I64 ad) (hc : I64 bn) (hd : I64 bd) :
    Calls Tryd.prog 22 #[rv an ad, rv bn bd] w fun e w' => e = .returned (.int .i64 (cmpT an ad bn bd)) ∧ Below w.heap.size w w' := by
  cases ra : rightR an ad
  · have e : cmpT an ad bn bd = 0 := by simp [cmpT, ra]
    rw [e]
    exact compare_wrong an ad bn bd w ha hb hc hd (Or.inl ra)
  · cases rb : rightR bn bd
    · have e : cmpT an ad bn bd = 0 := by simp [cmpT, rb]
      rw [e]
      exact compare_wrong an ad bn bd w ha hb hc hd (Or.inr rb)
    · have e : cmpT an ad bn bd = cmpV an ad bn bd := by simp [cmpT, ra, rb]
      rw [e]
      exact compare_right an ad bn bd w ha hb hc hd ra rb
end Go.Proofs.YtnhopmoboahlgaaDoor
