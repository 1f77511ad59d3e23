/-
  The document's Print of a zone.
-/
import Derived.Test.YtdkolgndebkloaaGreatDoorTx5z
import Derived.Test.YtdkolgndebkloaaGreatDoorZb
namespace Go.Proofs.YtdkolgndebkloaaGreatDoor
open Go.RowKit Go.Shelf
set_option linter.unusedVariables false
set_option maxRecDepth 100000
theorem mulT_wrap (i n : Nat) (hi : i ≤ 9) (hn : n ≤ 8) : IntKind.i64.wrap ((i : Int) * ((n : Int) + 1)) = ((i * (n + 1) : Nat) : Int) := by
  have : i * (n + 1) ≤ 9 * 9 := Nat.mul_le_mul hi (by omega)
  rw [show (i : Int) * ((n : Int) + 1) = ((i * (n + 1) : Nat) : Int) by simp]
  generalize i * (n + 1) = z at *
  rw [IntKind.wrap_i64]
  omega
theorem rprint_nil (w : World) : Calls Tryz.prog 9 #[.pointer none] w fun e w' => e = .returned (.string ⟨#[]⟩) ∧ w' = w := by
  go_enter Tryz.func9, Tryz.ntmps9
  go_wp2_with fail
  go_ret
  exact ⟨rfl, rfl⟩
set_option maxHeartbeats 4000000 in
theorem rprintZ_any (r n m B : Nat) (c : Row) (w : World) (hn : n ≤ 8) (hm : m = (n + 1) * (n + 1)) (h : RZone w B r n (listOf c m)) (h0 : c 0 = 0 ∨ c 0 = 1) (h32 : ∀ k, -2147483648 ≤ c k ∧ c k ≤ 2147483647) (ht : Pow w) :
    Calls Tryz.prog 9 #[.pointer (some ⟨r, 0, none⟩)] w fun e w' => e = .returned (.string ⟨(printZ n c).toArray⟩) ∧ Below w.heap.size w w' := by
  have mp : 0 < m := by rw [hm]; exact Nat.mul_pos (by omega) (by omega)
  have m81 : m ≤ 81 := by rw [hm]; exact Nat.mul_le_mul (show n + 1 ≤ 9 by omega) (show n + 1 ≤ 9 by omega)
  have HI : Hid (∀ (i : Nat) w, i ≤ 8 → Pow w → Calls Tryz.prog 26 #[.int .i64 i] w fun e w' => e = .returned (.string ⟨(Lib.itoa i).toArray⟩) ∧ Below w.heap.size w w') := fun i w hi hp => (Go.Proofs.Tryz.strconv_Itoa _ (by omega) (by omega) _ hp).mono (by rintro e w' ⟨rfl, k, os, rfl⟩; exact ⟨rfl, Lib.below_grow _ _ (Nat.le_refl _) _ _⟩)
  have HE : Hid (∀ w', Below w.heap.size w w' → _) := fun w' hb => rempty_any (h.past hb) (by rw [listOf_len]; exact mp)
  rw [listOf_get c m 0 mp] at HE
  have HPr : Hid (∀ k w, Pow w → Calls Tryz.prog 35 #[.int .i32 (c k)] w fun e w' => e = .returned (.string ⟨(printS (c k)).toArray⟩) ∧ Below w.heap.size w w') := fun k w hp => rprint_any (c k) w (h32 k).1 (h32 k).2 hp
  obtain ⟨g, cap, r0, r1, -, -, r4⟩ := h
  rw [listOf_len] at r1
  have R0 : Hid (∀ w', Below w.heap.size w w' → w'.cell? ⟨r, 0, none⟩ = some (.int .i64 (n : Int)) ∧ w'.cell? ⟨r, 1, none⟩ = some (.slice (some ⟨g, 0, none⟩) m cap) ∧ ∀ k, k < m → w'.cell? ⟨g, k, none⟩ = some (.int .i32 (c k))) := fun w' hb => ⟨kc _ _ hb r0, kc _ _ hb r1, fun k hk => by
    have := r4 k (by rw [listOf_len]; exact hk)
    rw [Nat.zero_add, listOf_get c m k hk] at this
    exact kc _ _ hb this⟩
  have c0 := r0
  have hl := itoa_len n (by omega)
  have HP := hideD ht
  have HI0 := hideD (HI.out n w hn ht)
  have eh : (⟨(Lib.itoa (n : Int)).toArray⟩ : ByteArray) ++ (⟨#[58]⟩ : ByteArray) = ⟨(headS n).toArray⟩ := str_cat _ [58]
  have hl2 : (headS n).length ≤ 22 := by simp [headS]; omega
  clear r0 r1 r4 ht
  go_enter Tryz.func9, Tryz.ntmps9
  go_wp2_with fail
  refine HI0.out.mono ?_
  rintro e w1 ⟨rfl, hb1⟩
  have B1 := hideD hb1
  have HE1 := hideD (HE.out _ hb1)
  clear hb1 HI0 HE c0
  rcases h0 with h0 | h0
  · rw [h0] at HE1
    have ep : (⟨(headS n).toArray⟩ : ByteArray) ++ (⟨#[32, 101, 109, 112, 116, 121]⟩ : ByteArray) = ⟨(printZ n c).toArray⟩ := by rw [printZ, if_pos (by omega)]; exact str_cat _ [32, 101, 109, 112, 116, 121]
    clear h0 R0 HPr HI
    go_wp2_with fail
    refine HE1.out.mono ?_
    rintro e w2 ⟨rfl, rfl⟩
    go_wp2_with fail
    go_ret
    exact ⟨rfl, B1.out⟩
  · rw [h0] at HE1
    have EP : Hid (printZ n c = accS n c m) := by show _ = _; rw [printZ, if_neg (by omega), hm]
    have AL : Hid (∀ K, K ≤ 81 → (accS n c K).length ≤ 100 * K + 100) := accS_len n c hn
    have EQ : Hid (∀ i j, i ≤ n → j ≤ n → i * (n + 1) + j < m ∧ (i * (n + 1) + j) / (n + 1) = i ∧ (i * (n + 1) + j) % (n + 1) = j) := fun i j hi hj => ⟨by rw [hm]; exact pos_lt hi hj, (posT_inj hj rfl).1.symm, (posT_inj hj rfl).2.symm⟩
    have MW : Hid (∀ i : Nat, i ≤ 9 → IntKind.i64.wrap ((i : Int) * ((n : Int) + 1)) = ((i * (n + 1) : Nat) : Int)) := fun i hi => mulT_wrap i n hi hn
    have EM := hideD hm
    have a5 : IntKind.i64.wrap ((n : Int) + 1) = (n : Int) + 1 := by rw [IntKind.wrap_i64]; omega
    clear h0 hm
    go_wp2_with fail
    refine HE1.out.mono ?_
    rintro e w2 ⟨rfl, rfl⟩
    clear HE1
    go_wp2_with fail
    go_loopw [3, 4] (fun t s wr => ∃ (I : Nat), I ≤ n + 1 ∧ t = .string ⟨(accS n c (I * (n + 1))).toArray⟩ ∧ s = .int .i64 (I : Int) ∧ Hid (Below w.heap.size w wr)) (fun _ s _ => n + 1 - (intOf s).toNat)
    case atStart => exact ⟨0, by omega, by rw [Nat.zero_mul]; rfl, rfl, B1⟩
    case round =>
      obtain ⟨I, hI, rfl, rfl, hB⟩ := hrel
      clear B1
      have c0 := (R0.out wr hB.out).1
      by_cases cI : I ≤ n
      · have i1 : (I : Int) ≤ (n : Int) := by omega
        go_wp2_with fail
        clear c0
        go_loopw [3, 5] (fun t s wr => ∃ (J : Nat), J ≤ n + 1 ∧ t = .string ⟨(accS n c (I * (n + 1) + J)).toArray⟩ ∧ s = .int .i64 (J : Int) ∧ Hid (Below w.heap.size w wr)) (fun _ s _ => n + 1 - (intOf s).toNat)
        case atStart => exact ⟨0, by omega, rfl, rfl, hB⟩
        case round =>
          clear hB
          obtain ⟨J, hJ, rfl, rfl, hB⟩ := hrel
          have c0 := (R0.out wr hB.out).1
          by_cases cJ : J ≤ n
          · have j1 : (J : Int) ≤ (n : Int) := by omega
            obtain ⟨q1, q2, q3⟩ := EQ.out I J cI cJ
            have c1 := (R0.out wr hB.out).2.1
            have c2 := (R0.out wr hB.out).2.2 _ q1
            have e1 := MW.out I (by omega)
            have nx : Hid (accS n c (I * (n + 1) + (J + 1)) = if tellsB I J (c (I * (n + 1) + J)) = true then accS n c (I * (n + 1) + J) ++ termS I J (c (I * (n + 1) + J)) else accS n c (I * (n + 1) + J)) := by
              show accS n c (I * (n + 1) + J + 1) = _
              rw [accS, q2, q3]
            have al : (accS n c (I * (n + 1) + J)).length ≤ 10000 := by have := AL.out (I * (n + 1) + J) (by omega); omega
            have HX := hideD (HPr.out (I * (n + 1) + J))
            have TL := termS_len I J (c (I * (n + 1) + J)) (by omega) (by omega)
            have lc := printS_len (c (I * (n + 1) + J))
            generalize hx : c (I * (n + 1) + J) = x at *
            generalize accS n c (I * (n + 1) + J) = acc at *
            have HIi := hideD (fun w hp => HI.out I w (by omega) hp)
            have HIj := hideD (fun w hp => HI.out J w (by omega) hp)
            clear hx q2 q3 EQ MW AL HPr HI R0 EP
            generalize I * (n + 1) = a at *
            have a1 : (a : Int) + (J : Int) < (m : Int) := by omega
            have a2 : (0 : Int) ≤ (a : Int) + (J : Int) := by omega
            have a3 : IntKind.i64.wrap ((a : Int) + (J : Int)) = (a : Int) + (J : Int) := by rw [IntKind.wrap_i64]; omega
            have a4 : ((a : Int) + (J : Int)).toNat = a + J := by omega
            go_wp2_with fail
            go_quiet (fail)
            have hB' := hideD (below_drewN hB.out nq)
            clear hB c0 c1 c2 a1 a2 a3 a4 e1 q1
            generalize wr.drewN nq = w3 at *
            go_upto_region 13 with (fail)
            go_cut [64] (fun t wx => t = .bool (tellsB I J x) ∧ wx = w3)
            case first =>
              clear HX HIi HIj nx al TL lc
              by_cases h1 : I = J
              · subst h1
                have E : Hid (tellsB I I x = false) := by show _ = _; simp [tellsB]
                go_wp2_with fail
                go_meet
                exact ⟨by rw [E.out], rfl⟩
              · have t1 : ((I : Int) != (J : Int)) = true := by simp; omega
                by_cases h2 : x = 2147483647
                · subst h2
                  have E : Hid (tellsB I J 2147483647 = false) := by show _ = _; simp [tellsB]
                  clear h1
                  go_wp2_with fail
                  go_meet
                  exact ⟨by rw [E.out], rfl⟩
                · have t2 : (x != 2147483647) = true := by simpa using h2
                  have E : Hid (tellsB I J x = (decide ((0 : Int) < (I : Int)) || decide (x < 1))) := by
                    show _ = _
                    by_cases h3 : I = 0
                    · subst h3
                      have h1' : (0 == J) = false := by simp; omega
                      have h2' : (x == 2147483647) = false := by simpa using h2
                      simp only [tellsB, h1', h2']
                      simp
                    · have t : decide ((0 : Int) < (I : Int)) = true := decide_eq_true (by omega)
                      rw [t]
                      simp [tellsB, h1, h2, h3]
                  clear h1 h2
                  by_cases h3 : I = 0
                  · have h6 : ¬ ((0 : Int) < (I : Int)) := by omega
                    have E2 : Hid (tellsB I J x = decide (x < 1)) := by show _ = _; rw [E.out]; simp [h3]
                    clear h3 E
                    generalize (I : Int) = z at *
                    go_wp2_with fail
                    go_meet
                    exact ⟨by rw [E2.out], rfl⟩
                  · have h5 : (0 : Int) < (I : Int) := by omega
                    have E2 : Hid (tellsB I J x = true) := by show _ = _; rw [E.out]; simp; omega
                    clear h3 E
                    go_wp2_with fail
                    go_meet
                    exact ⟨by rw [E2.out], rfl⟩
            case rest =>
              obtain ⟨rfl, rfl⟩ := hcut
              cases ct : tellsB I J x with
              | false =>
                rw [ct] at nx
                have nx2 : accS n c (a + (J + 1)) = acc := nx.out.trans rfl
                clear ct nx
                go_wp2_with fail
                go_roundw
                case rel => exact ⟨J + 1, by omega, by rw [nx2], by go_num, hB'⟩
                case measure => simp [intOf]; omega
              | true =>
                rw [ct] at nx
                have nx2 : accS n c (a + (J + 1)) = acc ++ termS I J x := nx.out.trans rfl
                have la := itoa_len I (by omega)
                have lb := itoa_len J (by omega)
                have ea : (⟨#[32, 120]⟩ : ByteArray) ++ (⟨(Lib.itoa (I : Int)).toArray⟩ : ByteArray) = ⟨([32, 120] ++ Lib.itoa (I : Int)).toArray⟩ := str_cat [32, 120] _
                have eb : (⟨([32, 120] ++ Lib.itoa (I : Int)).toArray⟩ : ByteArray) ++ (⟨#[45, 120]⟩ : ByteArray) = ⟨([32, 120] ++ Lib.itoa (I : Int) ++ [45, 120]).toArray⟩ := str_cat _ [45, 120]
                have ec : (⟨([32, 120] ++ Lib.itoa (I : Int) ++ [45, 120]).toArray⟩ : ByteArray) ++ (⟨(Lib.itoa (J : Int)).toArray⟩ : ByteArray) = ⟨([32, 120] ++ Lib.itoa (I : Int) ++ [45, 120] ++ Lib.itoa (J : Int)).toArray⟩ := str_cat _ _
                have ed : (⟨([32, 120] ++ Lib.itoa (I : Int) ++ [45, 120] ++ Lib.itoa (J : Int)).toArray⟩ : ByteArray) ++ (⟨(printS x).toArray⟩ : ByteArray) = ⟨(termS I J x).toArray⟩ := str_cat _ _
                have ef : (⟨acc.toArray⟩ : ByteArray) ++ (⟨(termS I J x).toArray⟩ : ByteArray) = ⟨(accS n c (a + (J + 1))).toArray⟩ := by rw [nx2]; exact str_cat _ _
                have l3 : ([32, 120] ++ Lib.itoa (I : Int)).length ≤ 23 := by simp; omega
                have l4 : ([32, 120] ++ Lib.itoa (I : Int) ++ [45, 120]).length ≤ 25 := by simp; omega
                have l5 : ([32, 120] ++ Lib.itoa (I : Int) ++ [45, 120] ++ Lib.itoa (J : Int)).length ≤ 46 := by simp; omega
                generalize [32, 120] ++ Lib.itoa (I : Int) ++ [45, 120] ++ Lib.itoa (J : Int) = s3 at *
                generalize [32, 120] ++ Lib.itoa (I : Int) ++ [45, 120] = s2 at *
                generalize [32, 120] ++ Lib.itoa (I : Int) = s1 at *
                generalize Lib.itoa (I : Int) = si at *
                generalize Lib.itoa (J : Int) = sj at *
                generalize printS x = sx at *
                generalize termS I J x = st at *
                have HB1 := hideD (HIi.out wc (pow_later HP.out hB'.out))
                clear ct nx HIi nx2
                go_wp2_with fail
                refine HB1.out.mono ?_
                rintro e w4 ⟨rfl, hb4⟩
                have B4 := hideD (beyondD hB'.out hb4)
                have HB2 := hideD (HIj.out w4 (pow_later HP.out B4.out))
                clear HB1 hb4 HIj
                go_wp2_with fail
                refine HB2.out.mono ?_
                rintro e w5 ⟨rfl, hb5⟩
                have B5 := hideD (beyondD B4.out hb5)
                have HB3 := hideD (HX.out w5 (pow_later HP.out B5.out))
                clear HB2 hb5 HX B4
                go_wp2_with fail
                refine HB3.out.mono ?_
                rintro e w6 ⟨rfl, hb6⟩
                have B6 := hideD (beyondD B5.out hb6)
                clear HB3 hb6 B5
                go_wp2_with fail
                go_roundw
                case rel => exact ⟨J + 1, by omega, rfl, by go_num, B6⟩
                case measure => simp [intOf]; omega
          · have j1 : ¬ ((J : Int) ≤ (n : Int)) := by omega
            have eJ : J = n + 1 := by omega
            have st : accS n c (I * (n + 1) + J) = accS n c ((I + 1) * (n + 1)) := by rw [eJ, Nat.succ_mul]
            rw [st]
            clear eJ st
            go_wp2_with fail
            go_roundw
            case rel => exact ⟨I + 1, by omega, rfl, by go_num, hB⟩
            case measure => simp [intOf]; omega
      · have i1 : ¬ ((I : Int) ≤ (n : Int)) := by omega
        have eI : I = n + 1 := by omega
        have st : accS n c (I * (n + 1)) = printZ n c := by rw [EP.out, eI, EM.out]
        rw [st]
        clear st eI
        go_wp2_with fail
        go_ret
        exact ⟨rfl, hB.out⟩
end Go.Proofs.YtdkolgndebkloaaGreatDoor
