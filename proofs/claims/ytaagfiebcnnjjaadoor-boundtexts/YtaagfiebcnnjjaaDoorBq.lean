/-
  The contracts of decimal.Read, bound.Parse, and the document's Print and Parse of bounds: a text is parsed just if it is the text of a right bound, and gives that bound; nothing that was there turns.
-/
import Derived.Test.YtaagfiebcnnjjaaDoorBn
import Derived.Test.YtaagfiebcnnjjaaDoorSb
import Derived.Test.YtaagfiebcnnjjaaDoorBp
import Derived.Lib.AtoiErrMem
namespace Go.Proofs.YtaagfiebcnnjjaaDoor
open Go.RowKit
set_option linter.unusedVariables false

/-! ### Plain laws -/
theorem digits_len : ∀ (k u : Nat), u < 10 ^ (k + 1) → (Lib.decDigits u).length ≤ k + 1
  | 0, u, h => by rw [Lib.decDigits_one (by simpa using h)]; simp
  | k + 1, u, h => by
    by_cases hu : u < 10
    · rw [Lib.decDigits_one hu]; simp
    · have e : Lib.decDigits u = Lib.decDigits (u / 10) ++ [UInt8.ofNat (48 + u % 10)] := by rw [Lib.decDigits, dif_neg hu]
      have := digits_len k (u / 10) (by rw [Nat.pow_succ] at h; omega)
      rw [e, List.length_append, List.length_singleton]
      omega
theorem digits_allB (u : Nat) : (Lib.decDigits u).all isDigB = true := by
  rw [List.all_eq_true]
  intro c hc
  have h := digits_all u c hc
  simp only [isDigB, decide_eq_true_eq]
  exact h
theorem bodyV_digits (u : Nat) (h : u < 1000000000) : bodyV (Lib.decDigits u) = some u := by
  have hl := digits_len 8 u (by simpa using h)
  unfold bodyV
  rw [if_neg, if_pos (digits_allB u), digits_val]
  rintro (e | e)
  · exact digits_ne u e
  · omega
theorem numV_itoa (v : Int) (h0 : -268435456 ≤ v) (h1 : v ≤ 268435456) : numV (Lib.itoa v) = some v := by
  by_cases hv : v < 0
  · have e : Lib.itoa v = 45 :: Lib.decDigits v.natAbs := by unfold Lib.itoa; rw [if_pos hv]
    rw [e]
    unfold numV
    rw [if_pos (by rfl), List.drop_one, List.tail_cons, bodyV_digits _ (by omega)]
    simp only [Option.map_some]
    congr 1
    omega
  · have e : Lib.itoa v = Lib.decDigits v.toNat := by unfold Lib.itoa; rw [if_neg hv]
    rw [e]
    unfold numV
    rw [if_neg, bodyV_digits _ (by omega)]
    · simp only [Option.map_some]
      congr 1
      omega
    · cases h : Lib.decDigits v.toNat with
      | nil => exact absurd h (digits_ne _)
      | cons c r =>
        have hc := digits_all v.toNat c (by rw [h]; simp)
        intro he
        have he : c = 45 := by simpa using he
        subst he
        exact absurd hc.1 (by decide)

theorem ofB_props (v : Int) (r : Bool) (h : ofE v = 0) : finB (ofB v r) = true ∧ valV (ofB v r) = v ∧ valR (ofB v r) = r := by
  have hin : -268435456 ≤ v ∧ v ≤ 268435456 := by
    unfold ofE at h
    split at h
    · cases h
    · omega
  have e := ofB_in v r hin.1 hin.2
  have f : finB (ofB v r) = true := by
    rw [fin_iff, e]
    split <;> omega
  refine ⟨f, ?_, ?_⟩
  · rw [valV_fin _ f, e]
    split <;> omega
  · rw [valR_fin _ f, e]
    cases r
    · simp
    · simp
theorem ofB_back (c : Int) (f : finB c = true) : ofB (valV c) (valR c) = c ∧ ofE (valV c) = 0 := by
  have l := (fin_iff c).1 f
  have v := valV_fin c f
  have r := valR_fin c f
  refine ⟨?_, ofE_in _ (by omega) (by omega)⟩
  rw [ofB_in _ _ (by omega) (by omega), r, v]
  by_cases x : c % 2 = 1
  · simp [x]; omega
  · simp [x]; omega
theorem printS_fin (c : Int) (f : finB c = true) : printS c = (if valR c then [60, 61] else [60]) ++ Lib.itoa (valV c) := by
  have h : c ≠ 2147483647 := by
    have := (fin_iff c).1 f
    omega
  unfold printS
  rw [if_neg h, if_pos f]
  split <;> rfl
theorem printS_inf : printS 2147483647 = [105, 110, 102] := by simp [printS]
theorem itoa_not_eq (v : Int) (l : List UInt8) : Lib.itoa v ≠ 61 :: l := by
  obtain ⟨c, r, e, h⟩ := itoa_head v
  rw [e]
  intro h2
  have h2 : c = 61 := (List.cons.inj h2).1
  subst h2
  rcases h with h | h
  · cases h
  · exact absurd h.2 (by decide)
theorem valV_range (c : Int) (f : finB c = true) : -268435456 ≤ valV c ∧ valV c ≤ 268435456 := by
  have l := (fin_iff c).1 f
  rw [valV_fin c f]
  omega
theorem print_inj (a b : Int) (ra : rightB a = true) (rb : rightB b = true) (h : printS a = printS b) : a = b := by
  rcases fin_or_inf ra with rfl | fa
  · rcases fin_or_inf rb with rfl | fb
    · rfl
    · rw [printS_inf, printS_fin b fb] at h
      split at h <;> cases h
  · rcases fin_or_inf rb with rfl | fb
    · rw [printS_inf, printS_fin a fa] at h
      split at h <;> cases h
    · rw [printS_fin a fa, printS_fin b fb] at h
      have va := valV_range a fa
      have vb := valV_range b fb
      have key : valR a = valR b ∧ Lib.itoa (valV a) = Lib.itoa (valV b) := by
        cases x : valR a <;> cases y : valR b <;> simp [x, y] at h
        · exact ⟨rfl, h⟩
        · exact absurd h (itoa_not_eq _ _)
        · exact absurd h.symm (itoa_not_eq _ _)
        · exact ⟨rfl, h⟩
      have e := itoa_inj _ _ (by omega) (by omega) (by omega) (by omega) key.2
      rw [← (ofB_back a fa).1, ← (ofB_back b fb).1, e, key.1]

/-- What Parse tells of a text: the right bound with that text, or ErrForm, if there is none. -/
def ParseIs (s : List UInt8) (b e : Int) : Prop := (e = 0 ∧ rightB b = true ∧ printS b = s) ∨ (e = 7 ∧ b = 0 ∧ ∀ c, rightB c = true → printS c ≠ s)
theorem ParseIs.one {s : List UInt8} {b e b' e' : Int} (h : ParseIs s b e) (h' : ParseIs s b' e') : b = b' ∧ e = e' := by
  rcases h with ⟨rfl, r, p⟩ | ⟨rfl, rfl, n⟩
  · rcases h' with ⟨rfl, r', p'⟩ | ⟨rfl, rfl, n'⟩
    · exact ⟨print_inj _ _ r r' (p.trans p'.symm), rfl⟩
    · exact absurd p (n' _ r)
  · rcases h' with ⟨rfl, r', p'⟩ | ⟨rfl, rfl, n'⟩
    · exact absurd p' (n _ r')
    · exact ⟨rfl, rfl⟩

/-! ### What the library's variables hold -/
abbrev Errs (w : World) : Prop := (∃ tp p, w.var? Tryd.prog "strconv.ErrSyntax" = some #[.iface tp p]) ∧ (∃ tp p, w.var? Tryd.prog "strconv.ErrRange" = some #[.iface tp p])
theorem var_later {w w' : World} (hb : Below w.heap.size w w') {n : String} {g : Nat} {cs : Array Value} (hg : Tryd.prog.globalNamed n = some g) (hv : w.var? Tryd.prog n = some cs) : w'.var? Tryd.prog n = some cs := by
  refine var?_below hb hg ?_ hv
  unfold World.var? at hv
  simp only [hg, Option.bind_some] at hv
  cases h : w.heap[g]? with
  | none => rw [h] at hv; cases hv
  | some o => exact (Array.getElem?_eq_some_iff.1 h).1
theorem gSyn : Tryd.prog.globalNamed "strconv.ErrSyntax" = some 1 := by kernel_rfl
theorem gRan : Tryd.prog.globalNamed "strconv.ErrRange" = some 2 := by kernel_rfl
theorem errs_later {w w' : World} (h : Errs w) (hb : Below w.heap.size w w') : Errs w' := by
  obtain ⟨⟨t1, p1, h1⟩, t2, p2, h2⟩ := h
  exact ⟨⟨t1, p1, var_later hb gSyn h1⟩, t2, p2, var_later hb gRan h2⟩

theorem hide1 {p : Prop} (h : p) : Hid p := h
/-! ### decimal.Read -/
def readN (l : List UInt8) : Int := (readV l).getD 0
def readS (l : List UInt8) : Bool := (readV l).isSome
set_option maxHeartbeats 1000000 in
theorem read_any (s : ByteArray) (w : World) (hlim : s.size ≤ 140737488355328) (ht : Pow w) (he : Errs w) :
    Calls Tryd.prog 37 #[.string s] w fun e w' => e = .returned (.tuple #[.int .i64 (readN s.data.toList), .bool (readS s.data.toList)]) ∧ Below w.heap.size w w' := by
  cases h : Lib.parseIntB 64 s.data.toList
  · next v =>
    have hb := Lib.parseIntB_bounds h
    have v0 : -9223372036854775808 ≤ v := by have := hb.1; simp at this; omega
    have v1 : v ≤ 9223372036854775807 := by have := hb.2; simp at this; omega
    have H : Hid (Lib.parseIntB 64 s.data.toList = .ok v) := h
    clear h hb
    by_cases e : Lib.itoa v = s.data.toList
    · have r : readV s.data.toList = some v := by rw [← e]; exact readV_itoa v v0 v1
      have e1 : readN s.data.toList = v := by unfold readN; rw [r]; rfl
      have e2 : readS s.data.toList = true := by unfold readS; rw [r]; rfl
      rw [e1, e2]
      have E : Hid ((⟨(Lib.itoa v).toArray⟩ : ByteArray) = s) := by show (⟨(Lib.itoa v).toArray⟩ : ByteArray) = s; rw [e]
      clear e e1 e2 r
      go_enter Tryd.func37, Tryd.ntmps37
      go_wp2_with fail
      refine (Any.strconv_ParseInt_10_at64_ok Go.Proofs.Tryd.laysC174 s (by omega) v H.out w).mono ?_
      rintro e w1 ⟨rfl, hw⟩
      have h1 : Below w.heap.size w w1 := by
        rcases hw with rfl | ⟨t, rfl⟩
        · exact Below.refl _ _
        · exact Lib.bytesWorld_below _ _ _
      clear hw
      go_wp2_with fail
      refine (Go.Proofs.Tryd.strconv_FormatInt_10 v v0 v1 _ (pow_later ht h1)).mono ?_
      rintro e w2 ⟨rfl, k, os, rfl⟩
      rw [E.out]
      have h2 := below_after h1 (Lib.below_grow _ _ (Nat.le_refl _) k os)
      go_wp2
      go_ret2
      exact ⟨rfl, h2⟩
    · have r : readV s.data.toList = none := by
        unfold readV
        rw [H.out]
        simp only [if_neg e]
      have e1 : readN s.data.toList = 0 := by unfold readN; rw [r]; rfl
      have e2 : readS s.data.toList = false := by unfold readS; rw [r]; rfl
      rw [e1, e2]
      have E : Hid (Lib.itoa v ≠ s.data.toList) := e
      clear e e1 e2 r
      go_enter Tryd.func37, Tryd.ntmps37
      go_wp2_with fail
      refine (Any.strconv_ParseInt_10_at64_ok Go.Proofs.Tryd.laysC174 s (by omega) v H.out w).mono ?_
      rintro e w1 ⟨rfl, hw⟩
      have h1 : Below w.heap.size w w1 := by
        rcases hw with rfl | ⟨t, rfl⟩
        · exact Below.refl _ _
        · exact Lib.bytesWorld_below _ _ _
      clear hw
      go_wp2_with fail
      refine (Go.Proofs.Tryd.strconv_FormatInt_10 v v0 v1 _ (pow_later ht h1)).mono ?_
      rintro e w2 ⟨rfl, k, os, rfl⟩
      have h2 := below_after h1 (Lib.below_grow _ _ (Nat.le_refl _) k os)
      generalize hz : (⟨(Lib.itoa v).toArray⟩ : ByteArray) = z
      have hne : (z.toList == s.toList) = false := by
        have : z.toList ≠ s.toList := by
          rw [ByteArray.toList_eq, ByteArray.toList_eq, ← hz]
          exact E.out
        simpa using this
      clear hz
      go_wp2
      go_ret2
      exact ⟨rfl, h2⟩
  · have r : readV s.data.toList = none := by
      unfold readV
      rw [h]
    have e1 : readN s.data.toList = 0 := by unfold readN; rw [r]; rfl
    have e2 : readS s.data.toList = false := by unfold readS; rw [r]; rfl
    rw [e1, e2]
    have c := fun tp p hv => Any.strconv_ParseInt_10_at64_syntax_var Go.Proofs.Tryd.laysC174 s (by omega) h tp p w hv
    have C := hide1 c
    clear e1 e2 r h c
    obtain ⟨⟨tp, p, hv⟩, _⟩ := he
    go_enter Tryd.func37, Tryd.ntmps37
    go_wp2_with fail
    refine (C.out tp p hv).mono ?_
    rintro e w1 ⟨N, rfl, hN, hc, h1⟩
    clear hv C hc hN
    go_wp2
    go_ret2
    exact ⟨rfl, h1⟩
  · have r : readV s.data.toList = none := by
      unfold readV
      rw [h]
    have e1 : readN s.data.toList = 0 := by unfold readN; rw [r]; rfl
    have e2 : readS s.data.toList = false := by unfold readS; rw [r]; rfl
    rw [e1, e2]
    have c := fun tp p hv => Any.strconv_ParseInt_10_at64_range_var Go.Proofs.Tryd.laysC174 s (by omega) h tp p w hv
    have C := hide1 c
    clear e1 e2 r h c
    obtain ⟨_, ⟨tp, p, hv⟩⟩ := he
    go_enter Tryd.func37, Tryd.ntmps37
    go_wp2_with fail
    refine (C.out tp p hv).mono ?_
    rintro e w1 ⟨N, rfl, hN, hc, h1⟩
    clear hv C hc hN
    go_wp2
    go_ret2
    exact ⟨rfl, h1⟩

/-! ### bound.Parse -/
theorem form_of_read (r : Bool) (l : List UInt8) (v : Int) (h : readV l = some v) (he : ofE v = 0) : ParseIs ((if r then [60, 61] else [60]) ++ l) (ofB v r) 0 := by
  obtain ⟨f, hv, hr⟩ := ofB_props v r he
  refine .inl ⟨rfl, right_of_fin f, ?_⟩
  rw [printS_fin _ f, hv, hr, (readV_some h).2.2]
/-- No right bound has a text with this sign and a rest that is no numeral of a number within the bounds. -/
theorem none_of_read (r : Bool) (l : List UInt8) (hl : r = false → ∀ m, l ≠ 61 :: m) (h : ∀ v, readV l = some v → ofE v ≠ 0) (c : Int) (rc : rightB c = true) : printS c ≠ (if r then [60, 61] else [60]) ++ l := by
  intro e
  rcases fin_or_inf rc with rfl | fc
  · rw [printS_inf] at e
    cases r <;> cases e
  · rw [printS_fin c fc] at e
    have vc := valV_range c fc
    have key : Lib.itoa (valV c) = l := by
      cases r <;> cases x : valR c <;> simp [x] at e
      · exact e
      · exact absurd e.symm (hl rfl _)
      · exact absurd e (itoa_not_eq _ _)
      · exact e
    have := readV_itoa (valV c) (by omega) (by omega)
    rw [key] at this
    exact h _ this (ofB_back c fc).2
theorem none_of_first (s : List UInt8) (h1 : s ≠ [105, 110, 102]) (h2 : ∀ l, s ≠ 60 :: l) (c : Int) (rc : rightB c = true) : printS c ≠ s := by
  intro e
  rcases fin_or_inf rc with rfl | fc
  · rw [printS_inf] at e
    exact h1 e.symm
  · rw [printS_fin c fc] at e
    cases x : valR c <;> rw [x] at e
    · exact h2 _ e.symm
    · exact h2 _ e.symm
end Go.Proofs.YtaagfiebcnnjjaaDoor
