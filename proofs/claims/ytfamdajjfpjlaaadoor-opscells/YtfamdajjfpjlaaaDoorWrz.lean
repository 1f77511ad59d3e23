/-
  The walk of the statement OpsCells.
-/
import Derived.Test.YtfamdajjfpjlaaaDoorZh
namespace Go.Proofs.YtfamdajjfpjlaaaDoor
open Go.RowKit
set_option linter.unusedVariables false
set_option maxRecDepth 100000
set_option maxHeartbeats 8000000 in
theorem opsCells.walk (n : Int) (hn : (Lit.int .i64 n).wf = true) (v : Value) (l : List Int) (v2 : Value) (l2 : List Int) (w : World) (ht : Pow w) (hS : SliceAt w v l) (wf : ∀ z ∈ l, (Lit.int .i32 z).wf = true) (hby : l.length * 4 ≤ 140737488355328) (hnil : ∀ {c}, v = .slice none 0 c → c = 0) (hS2 : SliceAt w v2 l2) (wf2 : ∀ z ∈ l2, (Lit.int .i32 z).wf = true) (hby2 : l2.length * 4 ≤ 140737488355328) (hnil2 : ∀ {c}, v2 = .slice none 0 c → c = 0) :
    Calls Tryd.prog 9 #[.int .i64 n, v, v2] w fun e w' => e = .returned (.bool true) ∧ Below w.heap.size w w' := by
  obtain ⟨k1, o1, s1, -, z1, N1⟩ := two_of n v l w hS (wf_cells wf) (by omega)
  obtain ⟨k2, o2, s2, -, z2, N2⟩ := two_of n v2 l2 w hS2 (wf_cells wf2) (by omega)
  have HL := hideD (olive_any w ht)
  have S1 := hideD s1
  have S2 := hideD s2
  clear s1 s2 hS hS2 wf wf2 hnil hnil2 hby hby2 ht hn
  go_enter Tryd.func9, Tryd.ntmps9
  go_wp2_with fail
  refine HL.out.mono ?_
  rintro e w1 ⟨rfl, hb1⟩
  have B1 := hideD hb1
  have S11 := hideD (S1.out _ hb1)
  clear HL hb1 S1
  go_wp2_with fail
  refine S11.out.mono ?_
  rintro e w2 ⟨⟨p, rfl, hp⟩, hb2⟩
  have B2 := hideD (beyondD B1.out hb2.out)
  have S22 := hideD (S2.out _ B2.out)
  clear S11 S2 hb2 B1
  go_wp2_with fail
  refine S22.out.mono ?_
  rintro e w3 ⟨⟨q, rfl, hq⟩, hb3⟩
  have B3 := hideD (beyondD B2.out hb3.out)
  have P3 := hideD (hp.out.past hb3.out)
  clear S22 hp hb3 B2
  cases o1 with
  | none =>
    obtain rfl := P3.out
    clear P3 hq z1 z2 N1 N2
    go_wp2_with fail
    go_ret
    exact ⟨rfl, B3.out⟩
  | some x =>
    obtain ⟨N, c⟩ := x
    obtain ⟨hN, c1, b, rfl, hz1⟩ := P3.out
    cases o2 with
    | none =>
      obtain rfl := hq.out
      clear P3 hq z1 z2 N1 N2
      go_wp2_with fail
      go_ret
      exact ⟨rfl, B3.out⟩
    | some y =>
      obtain ⟨N', d⟩ := y
      obtain ⟨-, c2, b2, rfl, hz2⟩ := hq.out
      have e1 := N1 N c rfl
      have e2 := N2 N' d rfl
      obtain rfl : N = N' := by omega
      subst e1
      obtain ⟨Z, hC⟩ := cells_say (m := (N + 1) * (N + 1)) hN rfl hz1 hz2 c1 c2 (z1 N c rfl) (z2 N d rfl)
      have HC := hideD hC
      have HZ2 := hideD hz2
      obtain ⟨i0, hi0, hzz0, hzz1, hzz2⟩ := info3 info_lim
      have NX : Hid (∀ I J : Nat, I ≤ N → J ≤ N → fl (LC N d) (I * (N + 1) + J + 1) = fl (LC N d) (I * (N + 1) + J) ++ [.int .i64 ((N - I : Nat) : Int), .int .i64 (J : Int), .int .i32 (d ((N - I) * (N + 1) + J))]) := fun I J hI hJ => by
        rw [fl_next]
        simp only [LC, place_div hJ, place_mod hJ]
      have FL : Hid (∀ k, (fl (LC N d) k).length = 3 * k) := fl_len (LC N d)
      have F0 : Hid (fl (LC N d) 0 = []) := rfl
      have HCell : Hid (∀ wr (a j : Nat), Below w3.heap.size w3 wr → a ≤ N → j ≤ N → _) := fun wr a j hb ha hj => cell_in b2 N a j d wr hN (hz2.past hb) ha hj
      clear P3 hq z1 z2 N1 N2 hz1 hz2 hC e2 HZ2
      generalize hfz : fl (LC N d) = fz at *
      have HFZ := hideD hfz
      clear hfz
      have n8 : (N : Int) ≤ 8 := by omega
      go_wp2_with fail
      go_loopw [11, 12] (fun u i wr => ∃ (I : Nat) (x : Int), I ≤ N + 1 ∧ i = .int .i64 x ∧ Hid (x = (N : Int) - (I : Int)) ∧ Hid (wr.ownsRow w3.heap.size 83 3 u (I * (N + 1)) (fz (I * (N + 1)))) ∧ Hid (Below w3.heap.size w3 wr)) (fun _ i _ => (intOf i + 1).toNat)
      case atStart => exact ⟨0, (N : Int), by omega, rfl, by show (N : Int) = (N : Int) - ((0 : Nat) : Int); omega, by show World.ownsRow _ _ _ _ _ _ _; rw [Nat.zero_mul, F0.out]; exact World.ownsRow_nil _ _ _ _, Below.refl _ _⟩
      case round =>
        obtain ⟨I, x, hI, rfl, hx, hown, hB⟩ := hrel
        by_cases ci : I ≤ N
        · obtain ⟨a, ha⟩ : ∃ a, a = N - I := ⟨_, rfl⟩
          obtain rfl : x = (a : Int) := by have := hx.out; omega
          have a8 : a ≤ N := by omega
          have a0 : (0 : Int) ≤ (a : Int) := by omega
          have NXI : Hid (∀ J : Nat, J ≤ N → fz (I * (N + 1) + J + 1) = fz (I * (N + 1) + J) ++ [.int .i64 (a : Int), .int .i64 (J : Int), .int .i32 (d (a * (N + 1) + J))]) := fun J hJ => by rw [ha]; exact NX.out I J ci hJ
          have HA := hideD ha
          clear hx ha
          go_wp2_with fail
          go_loopw [11, 13] (fun u j wr => ∃ (J : Nat), J ≤ N + 1 ∧ j = .int .i64 (J : Int) ∧ Hid (wr.ownsRow w3.heap.size 83 3 u (I * (N + 1) + J) (fz (I * (N + 1) + J))) ∧ Hid (Below w3.heap.size w3 wr)) (fun _ j _ => N + 1 - (intOf j).toNat)
          case atStart => exact ⟨0, by omega, rfl, hown, hB⟩
          case round =>
            obtain ⟨J, hJ, rfl, hown, hB⟩ := hrel
            by_cases cj : J ≤ N
            · have HCJ := hideD (HCell.out wr a J hB.out a8 cj)
              have nx := hideD (NXI.out J cj)
              have k81 : I * (N + 1) + J + 1 ≤ 81 := by
                have := Nat.mul_le_mul (show I ≤ 8 by omega) (show N + 1 ≤ 9 by omega)
                omega
              have hj1 : (J : Int) ≤ (N : Int) := by omega
              have ADD : Hid (I * (N + 1) + (J + 1) = I * (N + 1) + J + 1) := rfl
              generalize I * (N + 1) + J = K at *
              generalize d (a * (N + 1) + J) = y at *
              go_wp2_with fail
              refine HCJ.out.mono ?_
              rintro e w4 ⟨rfl, hb4⟩
              have own4 := hideD (own_past hown.out hb4)
              have B4 := hideD (beyondD hB.out hb4)
              have hsz := B4.out.size
              have HN : Hid (∀ j u, [Value.int .i64 (a : Int), .int .i64 (J : Int), .int .i32 y][j]? = some u → (w4.alloc (.cells #[.int .i64 (a : Int), .int .i64 (J : Int), .int .i32 y] 83)).cell? ((⟨w4.heap.size, 0, none⟩ : Addr).add j) = some u) := by
                intro j u hj
                rw [Addr.add_lit, World.cell?_alloc_at _ _ _ _ rfl]
                simpa using hj
              clear hown hB HCJ hb4
              go_wp2_with (at_builtin; refine wpList_append_own _ rfl _ _ 35 rfl w3.heap.size 83 i0 (.agg #[.int .i64 0, .int .i64 0, .int .i32 0]) 3 24 Tryd.underlying35 hi0 hzz0 hzz1 hzz2 rfl (by decide) _ K (fz K) rfl (own4.out.alloc _) ⟨w4.heap.size, 0, none⟩ 1 1 [.int .i64 (a : Int), .int .i64 (J : Int), .int .i32 y] rfl rfl HN.out (fun u hu => by simp at hu; rcases hu with rfl | rfl | rfl <;> rfl) (by unfold maxLen; omega) (by omega) (by simp; omega) ?_; intro v' w5 hown' hgrow hnil)
              have hb5 : Below w3.heap.size w3 w5 := (B4.out.alloc hsz _).grown hgrow (by simp; omega) (by intro q hq; exact (own4.out.lt q hq).1)
              have B5 := hideD hb5
              have own5 : Hid (w5.ownsRow w3.heap.size 83 3 v' (I * (N + 1) + (J + 1)) (fz (I * (N + 1) + (J + 1)))) := by
                show w5.ownsRow _ _ _ _ _ _
                rw [ADD.out, nx.out]
                exact hown'
              clear hown' hgrow hnil hb5 own4 HN B4 nx
              exact ⟨⟨J + 1, by omega, by go_num, own5, B5⟩, by simp [intOf]; omega⟩
            · have eJ : J = N + 1 := by omega
              have own4 := hown
              rw [eJ, ← Nat.succ_mul] at own4
              have hj1 : ¬ ((J : Int) ≤ (N : Int)) := by omega
              clear hown HCell NX NXI eJ
              go_wp2_with fail
              go_roundw
              case rel => exact ⟨I + 1, (a : Int) - 1, by omega, by go_num, by have := HA.out; show (a : Int) - 1 = (N : Int) - ((I + 1 : Nat) : Int); omega, own4, hB⟩
              case measure => first | (simp [intOf]; done) | (simp [intOf]; omega)
        · have eI : I = N + 1 := by omega
          have x0 : x < 0 := by have := hx.out; omega
          have own := hown
          rw [eI, ← HFZ.out] at own
          clear hown HCell NX hx eI FL F0 HFZ
          have A1 := hideD (HC.out.one wr hB.out)
          have BA := hideD (beyondD hB.out (below_one wr (.cells #[.pointer (some ⟨b2, 0, none⟩)] 23)))
          have ownA := hideD (own_past own.out (below_one wr (.cells #[.pointer (some ⟨b2, 0, none⟩)] 23)))
          cases Z with
          | none =>
            clear own hB
            go_wp2_with fail
            refine A1.out.mono ?_
            rintro e wA ⟨⟨BB, hA⟩, hbA⟩
            obtain rfl : e = errOf 10 := hA
            have B4 := hideD (beyondD BA.out hbA)
            have C1 := hideD (HC.out.con wA _ B4.out (own_past ownA.out hbA))
            clear A1 BA ownA hbA
            go_wp2_with fail
            refine C1.out.mono ?_
            rintro e wC ⟨⟨BC, hA⟩, hbC⟩
            obtain rfl : e = errOf 10 := hA
            have B5 := hideD (beyondD B4.out hbC)
            have A2 := hideD (HC.out.two wC B5.out)
            have B6 := hideD (beyondD B5.out (below_one wC (.cells #[.pointer (some ⟨b, 0, none⟩), .pointer (some ⟨b2, 0, none⟩)] 23)))
            clear C1 B4 hbC B5
            go_wp2_with fail
            refine A2.out.mono ?_
            rintro e wD ⟨⟨BD, hA⟩, hbD⟩
            obtain rfl : e = errOf 10 := hA
            have B7 := hideD (beyondD B3.out (beyondD B6.out hbD))
            clear A2 B6 hbD
            go_wp2_with fail
            go_ret
            exact ⟨rfl, B7.out⟩
          | some c3 =>
            clear own hB
            go_wp2_with fail
            refine A1.out.mono ?_
            rintro e wA ⟨⟨BB, pa, -, rfl, hza⟩, hbA⟩
            have B4 := hideD (beyondD BA.out hbA)
            have C1 := hideD (HC.out.con wA _ B4.out (own_past ownA.out hbA))
            have ZA := hideD hza
            clear A1 BA ownA hbA hza
            go_wp2_with fail
            refine C1.out.mono ?_
            rintro e wC ⟨⟨BC, pb, -, rfl, hzb⟩, hbC⟩
            have B5 := hideD (beyondD B4.out hbC)
            have A2 := hideD (HC.out.two wC B5.out)
            have B6 := hideD (beyondD B5.out (below_one wC (.cells #[.pointer (some ⟨b, 0, none⟩), .pointer (some ⟨b2, 0, none⟩)] 23)))
            have ZA5 := hideD ((ZA.out.past hbC).past (below_one wC (.cells #[.pointer (some ⟨b, 0, none⟩), .pointer (some ⟨b2, 0, none⟩)] 23)))
            have ZB5 := hideD (hzb.past (below_one wC (.cells #[.pointer (some ⟨b, 0, none⟩), .pointer (some ⟨b2, 0, none⟩)] 23)))
            clear C1 B4 hbC B5 hzb ZA
            go_wp2_with fail
            refine A2.out.mono ?_
            rintro e wD ⟨⟨BD, pc, -, rfl, hzc⟩, hbD⟩
            have B7 := hideD (beyondD B6.out hbD)
            have ZA7 := hideD (ZA5.out.past hbD)
            have ZB7 := hideD (ZB5.out.past hbD)
            have ZC7 := hideD hzc
            obtain ⟨t, s, hts, hE, hM⟩ := HC.out.emp c3 rfl
            have HE := hideD hE
            have HM := hideD hM
            have Q1 := hideD (HC.out.eql c3 wD pa pb rfl ZA7.out ZB7.out)
            clear A2 B6 hbD hzc ZA5 ZB5 hE hM
            go_wp2_with fail
            refine Q1.out.mono ?_
            rintro e wE ⟨rfl, hbE⟩
            have ZA8 := hideD (ZA7.out.past hbE)
            have Q2 := hideD (HC.out.eql c3 wE pa pc rfl ZA8.out (ZC7.out.past hbE))
            have B8 := hideD (beyondD B7.out hbE)
            clear Q1 hbE ZA7 ZB7 ZC7 B7
            go_wp2_with fail
            refine Q2.out.mono ?_
            rintro e wF ⟨rfl, hbF⟩
            have ZA9 := hideD (ZA8.out.past hbF)
            have B9 := hideD (beyondD B8.out hbF)
            have Q3 := hideD (HC.out.inc1 c3 wF pa rfl B9.out ZA9.out)
            clear Q2 hbF ZA8 B8
            go_wp2_with fail
            refine Q3.out.mono ?_
            rintro e wG ⟨rfl, hbG⟩
            have ZA10 := hideD (ZA9.out.past hbG)
            have B10 := hideD (beyondD B9.out hbG)
            have Q4 := hideD (HC.out.inc2 c3 wG pa rfl B10.out ZA10.out)
            clear Q3 hbG ZA9 B9
            go_wp2_with fail
            refine Q4.out.mono ?_
            rintro e wH ⟨rfl, hbH⟩
            have ZA11 := hideD (ZA10.out.past hbH)
            have B11 := hideD (beyondD B10.out hbH)
            have Q5 := hideD (HE.out wH pa ZA11.out)
            clear Q4 hbH ZA10 B10 HE
            go_wp2_with fail
            refine Q5.out.mono ?_
            rintro e wI ⟨rfl, hbI⟩
            have B12 := hideD (beyondD B11.out hbI)
            have Q6 := hideD (HM.out wI B12.out)
            clear Q5 hbI ZA11 B11 HM
            go_wp2_with fail
            refine Q6.out.mono ?_
            rintro e wJ ⟨rfl, hbJ⟩
            have B13 := hideD (beyondD B3.out (beyondD B12.out hbJ))
            clear Q6 hbJ B12
            go_wp2_with fail
            go_ret
            exact ⟨(by cases t <;> cases s <;> first | rfl | (simp at hts)), B13.out⟩
end Go.Proofs.YtfamdajjfpjlaaaDoor
