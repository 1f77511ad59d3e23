/-
  The contract of dbm's Print.
-/
import Derived.Test.YtdkolgndebkloaaGreatDoorZa
import Derived.Test.YtdkolgndebkloaaGreatDoorSw
namespace Go.Proofs.YtdkolgndebkloaaGreatDoor
open Go.RowKit Go.Shelf
set_option linter.unusedVariables false
set_option maxRecDepth 100000
theorem own_past {w w' : World} {base : Nat} {e : TypeId} {size n : Nat} {v : Value} {xs : List Value} (h : w.ownsRow base e size v n xs) (hb : Below w.heap.size w w') : w'.ownsRow base e size v n xs := by
  refine ⟨h.1, ?_⟩
  rcases h.2 with ⟨rfl, h0⟩ | ⟨g, cap, cur, rfl, h1, h2, h3⟩
  · exact .inl ⟨rfl, h0⟩
  · refine .inr ⟨g, cap, cur, rfl, h1, (hb.block g ?_).trans h2, h3⟩
    rcases Nat.lt_or_ge g w.heap.size with h' | h'
    · exact h'
    · simp [Array.getElem?_eq_none h'] at h2
def tellsB (i j : Nat) (b : Int) : Bool := !(i == j) && !(b == 2147483647) && (!(i == 0) || decide (b < 1))
theorem tells_any (i j : Nat) (b : Int) (w : World) :
    Calls Tryz.prog 31 #[.int .i64 i, .int .i64 j, .int .i32 b] w fun e w' => e = .returned (.bool (tellsB i j b)) ∧ w' = w := by
  by_cases h1 : i = j
  · have e : tellsB i j b = false := by simp [tellsB, h1]
    rw [e]
    clear e
    have t1 : ((i : Int) != (j : Int)) = false := by simp [h1]
    go_enter Tryz.func31, Tryz.ntmps31
    go_wp2_with fail
    go_ret
    exact ⟨rfl, rfl⟩
  · have t1 : ((i : Int) != (j : Int)) = true := by simp; omega
    by_cases h2 : b = 2147483647
    · have e : tellsB i j b = false := by simp [tellsB, h2]
      rw [e]
      clear e
      subst h2
      go_enter Tryz.func31, Tryz.ntmps31
      go_wp2_with fail
      go_ret
      exact ⟨rfl, rfl⟩
    · have t2 : (b != 2147483647) = true := by simpa using h2
      by_cases h3 : i = 0
      · have e : tellsB i j b = decide (b < 1) := by simp [tellsB, h2, h3]; intro hj; omega
        rw [e]
        clear e
        subst h3
        by_cases h4 : b < 1
        · go_enter Tryz.func31, Tryz.ntmps31
          go_wp2_with fail
          go_ret
          exact ⟨by simp [h4]; omega, rfl⟩
        · go_enter Tryz.func31, Tryz.ntmps31
          go_wp2_with fail
          go_ret
          exact ⟨by simp [h4], rfl⟩
      · have e : tellsB i j b = true := by simp [tellsB, h1, h2, h3]
        rw [e]
        clear e
        have t3 : ((i : Int) != 0) = true := by simp; omega
        go_enter Tryz.func31, Tryz.ntmps31
        go_wp2_with fail
        go_ret
        exact ⟨rfl, rfl⟩
def termS (i j : Nat) (b : Int) : List UInt8 := [32, 120] ++ Lib.itoa i ++ [45, 120] ++ Lib.itoa j ++ printS b
def headS (n : Nat) : List UInt8 := Lib.itoa n ++ [58]
def accS (n : Nat) (c : Row) : Nat → List UInt8
  | 0 => headS n
  | K + 1 => if tellsB (K / (n + 1)) (K % (n + 1)) (c K) = true then accS n c K ++ termS (K / (n + 1)) (K % (n + 1)) (c K) else accS n c K
def printZ (n : Nat) (c : Row) : List UInt8 := if c 0 < 1 then headS n ++ [32, 101, 109, 112, 116, 121] else accS n c ((n + 1) * (n + 1))
theorem itoa_len (i : Nat) (h : i ≤ 100) : (Lib.itoa (i : Int)).length ≤ 21 := Lib.itoa_length_le _ (by omega) (by omega)
theorem printS_len (b : Int) : (printS b).length ≤ 23 := by
  unfold printS
  split
  · simp
  · split
    · rename_i f
      have l := (fin_iff b).1 f
      have : (Lib.itoa (valV b)).length ≤ 21 := Lib.itoa_length_le _ (by simp [valV, f]; omega) (by simp [valV, f]; omega)
      split
      · simp; omega
      · simp; omega
    · simp
theorem termS_len (i j : Nat) (b : Int) (hi : i ≤ 100) (hj : j ≤ 100) : (termS i j b).length ≤ 100 := by
  have := itoa_len i hi
  have := itoa_len j hj
  have := printS_len b
  simp [termS]
  omega
theorem accS_len (n : Nat) (c : Row) (h : n ≤ 8) : ∀ K, K ≤ 81 → (accS n c K).length ≤ 100 * K + 100
  | 0, _ => by have := itoa_len n (by omega); simp [accS, headS]; omega
  | K + 1, hK => by
    have ih := accS_len n c h K (by omega)
    have d1 : K / (n + 1) ≤ 100 := Nat.le_trans (Nat.div_le_self _ _) (by omega)
    have d2 : K % (n + 1) ≤ 100 := Nat.le_trans (Nat.mod_le _ _) (by omega)
    have := termS_len (K / (n + 1)) (K % (n + 1)) (c K) d1 d2
    unfold accS
    split
    · rw [List.length_append]; omega
    · omega
theorem builder_past {T e : TypeId} {B b : Nat} {bs : List Value} {w w' : World} (h : Lib.IsBuilder T e B b bs w) (hb : Below w.heap.size w w') : Lib.IsBuilder T e B b bs w' := by
  have one : ∀ p, Lib.BuilderAt T e B b p bs w → Lib.BuilderAt T e B b p bs w' := fun p k => by
    have hl := k.lt
    obtain ⟨h1, v, h2, h3, h4⟩ := k
    exact ⟨h1, v, (hb.block b hl).trans h2, own_past h3 hb, h4⟩
  rcases h with h | h
  · exact .inl (one _ h)
  · exact .inr (one _ h)
theorem size_mk (l : List UInt8) : (⟨l.toArray⟩ : ByteArray).size = l.length := by simp [ByteArray.size]
theorem byte_len (l : List UInt8) : (Lib.byteCells l).length = l.length := by simp [Lib.byteCells]
theorem byte_app (a b : List UInt8) : Lib.byteCells (a ++ b) = Lib.byteCells a ++ Lib.strCells ⟨b.toArray⟩ := by simp [Lib.byteCells, Lib.strCells]
theorem print_nil (w : World) : Calls Tryz.prog 8 #[.pointer none] w fun e w' => e = .returned (.string ⟨#[]⟩) ∧ w' = w := by
  go_enter Tryz.func8, Tryz.ntmps8
  go_wp2_with fail
  go_ret
  exact ⟨rfl, rfl⟩
set_option maxHeartbeats 4000000 in
theorem printZ_any (zb n : Nat) (c : Row) (w : World) (h : n ≤ 8) (hz : ZoneAt w zb n c) (ht : Pow w) :
    Calls Tryz.prog 8 #[.pointer (some ⟨zb, 0, none⟩)] w fun e w' => e = .returned (.string ⟨(printZ n c).toArray⟩) ∧ Below w.heap.size w w' := by
  have l0 : -9223372036854775808 ≤ (n : Int) := by omega
  have l1 : (n : Int) ≤ 9223372036854775807 := by omega
  have HI : Hid (∀ w, Pow w → Calls Tryz.prog 26 #[.int .i64 n] w fun e w' => e = .returned (.string ⟨(Lib.itoa n).toArray⟩) ∧ Below w.heap.size w w') := fun w hp => (Go.Proofs.Tryz.strconv_Itoa _ l0 l1 _ hp).mono (by rintro e w' ⟨rfl, k, os, rfl⟩; exact ⟨rfl, Lib.below_grow _ _ (Nat.le_refl _) _ _⟩)
  have hl := itoa_len n (by omega)
  have hc0 := hz.clocks
  have HZ := hideD hz
  have HP := hideD ht
  have HH : Hid (∀ w', Below w.heap.size w w' → Calls Tryz.prog 27 #[.pointer (some ⟨zb, 0, none⟩)] w' fun e w'' => e = .returned (.bool (decide (c 0 < 1))) ∧ Below w'.heap.size w' w'') := fun w' hb => hollow_any zb n c w' h (hz.past hb)
  clear hz ht
  go_enter Tryz.func8, Tryz.ntmps8
  go_wp2_with fail
  refine (HI.out _ HP.out).mono ?_
  rintro e w1 ⟨rfl, hb1⟩
  have B1 := hideD hb1
  have HH1 := hideD (HH.out _ hb1)
  clear hb1 HI HH hc0
  have eh : (⟨(Lib.itoa (n : Int)).toArray⟩ : ByteArray) ++ (⟨#[58]⟩ : ByteArray) = ⟨(headS n).toArray⟩ := str_cat _ [58]
  have hl2 : (headS n).length ≤ 22 := by simp [headS]; omega
  by_cases ce : c 0 < 1
  · rw [decide_eq_true ce] at HH1
    have ep : (⟨(headS n).toArray⟩ : ByteArray) ++ (⟨#[32, 101, 109, 112, 116, 121]⟩ : ByteArray) = ⟨(printZ n c).toArray⟩ := by rw [printZ, if_pos ce]; exact str_cat _ [32, 101, 109, 112, 116, 121]
    go_wp2_with fail
    refine HH1.out.mono ?_
    rintro e w2 ⟨rfl, hb2⟩
    go_wp2_with fail
    go_ret
    exact ⟨rfl, beyondD B1.out hb2⟩
  · rw [decide_eq_false ce] at HH1
    have EP : Hid (printZ n c = accS n c ((n + 1) * (n + 1))) := by show _ = _; rw [printZ, if_neg ce]
    have hm81 : (n + 1) * (n + 1) ≤ 81 := Nat.mul_le_mul (show n + 1 ≤ 9 by omega) (show n + 1 ≤ 9 by omega)
    have HU : Hid (∀ w', Below w.heap.size w w' → Calls Tryz.prog 29 #[.pointer (some ⟨zb, 0, none⟩)] w' fun e w'' => e = .returned (.slice (some ⟨zb, 1, none⟩) ((n + 1) * (n + 1)) 81) ∧ Below w'.heap.size w' w'') := fun w' hb => used_any zb n w' h (HZ.out.past hb).clocks
    have HQ : Hid (∀ k, k < (n + 1) * (n + 1) → k / (n + 1) ≤ n ∧ k % (n + 1) ≤ n) := fun k hk => ⟨by have := Nat.div_lt_of_lt_mul hk; omega, by have := Nat.mod_lt k (show 0 < n + 1 by omega); omega⟩
    generalize (n + 1) * (n + 1) = m at *
    have m1 : (m : Int) ≤ 81 := by omega
    go_wp2_with fail
    refine HH1.out.mono ?_
    rintro e w2 ⟨rfl, hb2⟩
    have B2 := hideD (beyondD B1.out hb2)
    have I0 := Lib.fresh_isBuilder 64 5 w2
    have B3 := hideD (B2.out.alloc B2.out.size (.cells #[.pointer none, .slice none 0 0] 64))
    have HW := hideD (Go.Proofs.Tryz.writeString _ _ _ ⟨(headS n).toArray⟩ _ I0 (by rw [size_mk]; simp; omega) (by simp))
    have sz2 := hideD B2.out.size
    clear hb2 HH1 B1 I0 B2
    go_wp2_with fail
    refine HW.out.mono ?_
    rintro e w3 ⟨rfl, hI, hb3⟩
    have I3 : Hid (Lib.IsBuilder 64 5 w2.heap.size w2.heap.size (Lib.byteCells (accS n c 0)) w3) := .inr (by
      have e : Lib.byteCells (accS n c 0) = [] ++ Lib.strCells ⟨(headS n).toArray⟩ := by simp [accS, Lib.byteCells, Lib.strCells]
      rw [e]; exact hI)
    have B4 := hideD (B3.out.trans (hb3.mono sz2.out))
    have HU1 := hideD (HU.out _ B4.out)
    have lt3 := hideD (show w2.heap.size < w3.heap.size from hI.lt)
    clear hI hb3 HW B3 HU
    generalize w2.heap.size = bb at *
    go_wp2_with fail
    refine HU1.out.mono ?_
    rintro e w4 ⟨rfl, hb4⟩
    have I4 := hideD (builder_past I3.out hb4)
    have B5 := hideD (beyondD B4.out hb4)
    have sz4 := hideD (show bb < w4.heap.size from Nat.lt_of_lt_of_le lt3.out hb4.size)
    clear hb4 I3 B4 HU1 lt3 eh hl2 hl
    go_wp2_with fail
    go_loopw [32] (fun s wr => ∃ (K : Nat), K ≤ m ∧ s = .int .i64 (K : Int) ∧ Hid (Lib.IsBuilder 64 5 bb bb (Lib.byteCells (accS n c K)) wr) ∧ Hid (Below w.heap.size w wr) ∧ Hid (bb < wr.heap.size)) (fun s _ => m - (intOf s).toNat)
    case atStart => exact ⟨0, by omega, rfl, I4, B5, sz4⟩
    case round =>
      obtain ⟨K, hK, rfl, hI, hB, hS⟩ := hrel
      clear I4 B5 sz4
      by_cases ck : K < m
      · have k0 : (0 : Int) ≤ (K : Int) := by omega
        have k1 : (K : Int) < (m : Int) := by omega
        have k2 : (K : Int) < 81 := by omega
        have c0 := (HZ.out.past hB.out).cell K (by omega)
        have q0 := (HZ.out.past hB.out).clocks
        obtain ⟨i1, j1⟩ := HQ.out K ck
        have HPl : Hid (∀ w, Calls Tryz.prog 30 #[.agg #[.int .i64 n], .int .i64 K] w fun e w' => e = .returned (.tuple #[.int .i64 ((K / (n + 1) : Nat) : Int), .int .i64 ((K % (n + 1) : Nat) : Int)]) ∧ Below w.heap.size w w') := fun w => place_any n K w h (by omega)
        have nx : Hid (accS n c (K + 1) = if tellsB (K / (n + 1)) (K % (n + 1)) (c K) = true then accS n c K ++ termS (K / (n + 1)) (K % (n + 1)) (c K) else accS n c K) := rfl
        have AL := hideD (accS_len n c h K (by omega))
        generalize K / (n + 1) = i at *
        generalize K % (n + 1) = j at *
        generalize c K = x at *
        have HT := hideD (fun w => tells_any i j x w)
        go_wp2_with fail
        refine (HPl.out _).mono ?_
        rintro e w5 ⟨rfl, hb5⟩
        have I5 := hideD (builder_past hI.out hb5)
        have B6 := hideD (beyondD hB.out hb5)
        have S5 := hideD (show bb < w5.heap.size from Nat.lt_of_lt_of_le hS.out hb5.size)
        clear hb5 hI hB hS HPl c0 q0
        cases ct : tellsB i j x with
        | false =>
          rw [ct] at HT nx
          have nx2 : Hid (accS n c (K + 1) = accS n c K) := by show _ = _; rw [nx.out]; rfl
          rw [← nx2.out] at I5
          go_wp2_with fail
          refine (HT.out _).mono ?_
          rintro e w6 ⟨rfl, rfl⟩
          go_wp2_with fail
          go_roundw
          case rel => exact ⟨K + 1, by omega, by go_num, I5, B6, S5⟩
          case measure => simp [intOf]; omega
        | true =>
          rw [ct] at HT nx
          have nx2 : Hid (accS n c (K + 1) = accS n c K ++ termS i j x) := by show _ = _; rw [nx.out]; rfl
          clear nx
          have TL := hideD (termS_len i j x (by omega) (by omega))
          have HIi : Hid (∀ w, Pow w → Calls Tryz.prog 26 #[.int .i64 i] w fun e w' => e = .returned (.string ⟨(Lib.itoa i).toArray⟩) ∧ Below w.heap.size w w') := fun w hp => (Go.Proofs.Tryz.strconv_Itoa _ (by omega) (by omega) _ hp).mono (by rintro e w' ⟨rfl, k, os, rfl⟩; exact ⟨rfl, Lib.below_grow _ _ (Nat.le_refl _) _ _⟩)
          have HIj : Hid (∀ w, Pow w → Calls Tryz.prog 26 #[.int .i64 j] w fun e w' => e = .returned (.string ⟨(Lib.itoa j).toArray⟩) ∧ Below w.heap.size w w') := fun w hp => (Go.Proofs.Tryz.strconv_Itoa _ (by omega) (by omega) _ hp).mono (by rintro e w' ⟨rfl, k, os, rfl⟩; exact ⟨rfl, Lib.below_grow _ _ (Nat.le_refl _) _ _⟩)
          have HPr : Hid (∀ w, Pow w → Calls Tryz.prog 32 #[.int .i32 x] w fun e w' => e = .returned (.string ⟨(printS x).toArray⟩) ∧ Below w.heap.size w w') := fun w hp => print_any x w hp
          have la := itoa_len i (by omega)
          have lb := itoa_len j (by omega)
          have lc := printS_len x
          have ea : (⟨#[32, 120]⟩ : ByteArray) ++ (⟨(Lib.itoa (i : Int)).toArray⟩ : ByteArray) = ⟨([32, 120] ++ Lib.itoa (i : Int)).toArray⟩ := str_cat [32, 120] _
          have eb : (⟨([32, 120] ++ Lib.itoa (i : Int)).toArray⟩ : ByteArray) ++ (⟨#[45, 120]⟩ : ByteArray) = ⟨([32, 120] ++ Lib.itoa (i : Int) ++ [45, 120]).toArray⟩ := str_cat _ [45, 120]
          have ec : (⟨([32, 120] ++ Lib.itoa (i : Int) ++ [45, 120]).toArray⟩ : ByteArray) ++ (⟨(Lib.itoa (j : Int)).toArray⟩ : ByteArray) = ⟨([32, 120] ++ Lib.itoa (i : Int) ++ [45, 120] ++ Lib.itoa (j : Int)).toArray⟩ := str_cat _ _
          have ed : (⟨([32, 120] ++ Lib.itoa (i : Int) ++ [45, 120] ++ Lib.itoa (j : Int)).toArray⟩ : ByteArray) ++ (⟨(printS x).toArray⟩ : ByteArray) = ⟨(termS i j x).toArray⟩ := str_cat _ _
          have l3 : ([32, 120] ++ Lib.itoa (i : Int)).length ≤ 23 := by simp; omega
          have l4 : ([32, 120] ++ Lib.itoa (i : Int) ++ [45, 120]).length ≤ 25 := by simp; omega
          have l5 : ([32, 120] ++ Lib.itoa (i : Int) ++ [45, 120] ++ Lib.itoa (j : Int)).length ≤ 46 := by simp; omega
          generalize [32, 120] ++ Lib.itoa (i : Int) ++ [45, 120] ++ Lib.itoa (j : Int) = s3 at *
          generalize [32, 120] ++ Lib.itoa (i : Int) ++ [45, 120] = s2 at *
          generalize [32, 120] ++ Lib.itoa (i : Int) = s1 at *
          generalize Lib.itoa (i : Int) = si at *
          generalize Lib.itoa (j : Int) = sj at *
          generalize printS x = sx at *
          go_wp2_with fail
          refine (HT.out _).mono ?_
          rintro e w6 ⟨rfl, rfl⟩
          go_wp2_with fail
          refine (HIi.out _ (pow_later HP.out B6.out)).mono ?_
          rintro e w7 ⟨rfl, hb7⟩
          have I7 := hideD (builder_past I5.out hb7)
          have B7 := hideD (beyondD B6.out hb7)
          have S7 := hideD (show bb < w7.heap.size from Nat.lt_of_lt_of_le S5.out hb7.size)
          clear hb7 I5 B6 S5 HIi HT
          go_wp2_with fail
          refine (HIj.out _ (pow_later HP.out B7.out)).mono ?_
          rintro e w8 ⟨rfl, hb8⟩
          have I8 := hideD (builder_past I7.out hb8)
          have B8 := hideD (beyondD B7.out hb8)
          have S8 := hideD (show bb < w8.heap.size from Nat.lt_of_lt_of_le S7.out hb8.size)
          clear hb8 I7 B7 S7 HIj
          go_wp2_with fail
          refine (HPr.out _ (pow_later HP.out B8.out)).mono ?_
          rintro e w9 ⟨rfl, hb9⟩
          have I9 := hideD (builder_past I8.out hb9)
          have B9 := hideD (beyondD B8.out hb9)
          have S9 := hideD (show bb < w9.heap.size from Nat.lt_of_lt_of_le S8.out hb9.size)
          clear hb9 I8 B8 S8 HPr
          have HW := hideD (Go.Proofs.Tryz.writeString _ _ _ ⟨(termS i j x).toArray⟩ _ I9.out (by have := AL.out; have := TL.out; rw [size_mk, byte_len]; omega) (Nat.le_of_lt S9.out))
          go_wp2_with fail
          refine HW.out.mono ?_
          rintro e wa ⟨rfl, hI, hba⟩
          have Ia : Hid (Lib.IsBuilder 64 5 bb bb (Lib.byteCells (accS n c (K + 1))) wa) := .inr (by rw [nx2.out, byte_app]; exact hI)
          have Ba := hideD (B9.out.trans (hba.mono sz2.out))
          have Sa := hideD (show bb < wa.heap.size from hI.lt)
          clear hI hba HW I9 B9 S9
          go_wp2_with fail
          go_roundw
          case rel => exact ⟨K + 1, by omega, by go_num, Ia, Ba, Sa⟩
          case measure => simp [intOf]; omega
      · have eK : K = m := by omega
        subst eK
        have HS := hideD (Go.Proofs.Tryz.builderString bb bb (accS n c K) wr hI.out (Nat.le_of_lt hS.out))
        go_wp2_with fail
        refine HS.out.mono ?_
        rintro e wz ⟨rfl, hbz⟩
        go_wp2_with fail
        exact bodyPost_ret (v := .string ⟨(accS n c K).toArray⟩) (by simp [results, Tryz.results8, go_sem]) rfl ⟨by rw [EP.out], hB.out.trans (hbz.mono sz2.out)⟩
end Go.Proofs.YtdkolgndebkloaaGreatDoor
