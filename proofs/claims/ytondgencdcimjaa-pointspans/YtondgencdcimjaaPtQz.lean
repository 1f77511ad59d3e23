/-
  The walk of PointSpans.
-/
import Derived.Test.YtondgencdcimjaaPtMz
import Derived.Test.YtondgencdcimjaaPtJz
namespace Go.Proofs.Ytondgencdcimjaa
open Go.RowKit Go.Shelf Go.ChangeShapes Go.WideShapes Go.ChangeAt
set_option linter.unusedVariables false
set_option maxRecDepth 100000
theorem set7 {w W : World} (h : Below w.heap.size w W) (o : Obj) : Below w.heap.size w (W.alloc o) := h.alloc h.size _
/-- A span and a delay: what the law makes of the first test. -/
def of1 (ok li : Bool) (x : Int) : Bool := ok && (decide (x < 0) || (decide (x = 0) && li))
def of2 (hi : Bool) (x : Int) : Bool := decide (x < 0) || (decide (x = 0) && hi)
set_option maxHeartbeats 4000000 in
theorem pointSpans.walk (n : Int) (wn : (Lit.int .i64 n).wf = true) (v : Value) (l : List Int) (a g : Value) (L : Rats) (dn dd ck nn : Int) (w : World) (hS : SliceAt w v l) (wf : ∀ z ∈ l, (Lit.int .i32 z).wf = true) (hby : l.length * 4 ≤ 140737488355328) (hnl : ∀ {c}, v = .slice none 0 c → c = 0)
    (hR : RatS w a L) (wR : ∀ k, k < L.q → (Lit.int .i64 (L.n k)).wf = true ∧ (Lit.int .i64 (L.d k)).wf = true) (hbR : L.q * 16 ≤ 140737488355328) (wd : (Lit.int .i64 dn).wf = true) (we : (Lit.int .i64 dd).wf = true) :
    Calls Try.prog 4 #[.int .i64 n, v, .agg #[a, .int .i64 dn, .int .i64 dd, .int .i64 ck, .int .i64 nn, g]] w fun e w' => e = .returned (.bool true) ∧ Below w.heap.size w w' := by
  obtain ⟨ad, cap, rfl, hnil, hV⟩ := hR
  have hI : RatI L := fun k hk => ⟨bounds_i64 (wR k hk).1, bounds_i64 (wR k hk).2⟩
  obtain ⟨q, hq⟩ : ∃ q, L.q = q := ⟨_, rfl⟩
  rw [hq] at hnil hbR
  rw [hq]
  have id := bounds_i64 wd
  have ie := bounds_i64 we
  have Ba := hideD (single w (.cells #[.slice ad q cap, .int .i64 dn, .int .i64 dd, .int .i64 ck, .int .i64 nn, g] 42))
  have HO := hideD (fun W (hb : Below w.heap.size w W) => ofP_any n v l W (hS.later hb) (fun j hj => bounds_i32 (wf _ (getD_mem hj))) (by omega))
  have HW := hideD (fun W (hb : Below w.heap.size w W) => waitP_any ad q cap L dn dd W hq (by omega) (hV.later hb) hI id ie)
  have H0 := hideD (fun W => plive_any W)
  have HI := hideD hI
  have HV := hideD hV
  have HNil := hideD hnil
  have Hq := hideD hq
  have Id := hideD id
  have Ie := hideD ie
  clear hS wf hby hnl wn hV hI hnil hbR wd we wR id ie hq
  go_enter Try.func4, Try.ntmps4
  go_wp2_with fail
  refine (H0.out _).mono ?_
  rintro e w1 ⟨rfl, hb1⟩
  have s0 := kc ⟨w.heap.size, 0, none⟩ (.slice ad q cap) hb1 (by simp [go_sem])
  have s1 := kc ⟨w.heap.size, 1, none⟩ (.int .i64 dn) hb1 (by simp [go_sem])
  have s2 := kc ⟨w.heap.size, 2, none⟩ (.int .i64 dd) hb1 (by simp [go_sem])
  have B1 := hideD (beyondD Ba.out hb1)
  have H1 := hideD (HO.out w1 B1.out)
  clear HO H0 hb1 Ba
  go_wp2_with fail
  refine H1.out.mono ?_
  rintro e w2 ⟨ho, hb2⟩
  have s0 := kc _ _ hb2 s0
  have s1 := kc _ _ hb2 s1
  have s2 := kc _ _ hb2 s2
  have B2 := hideD (beyondD B1.out hb2)
  have H2 := hideD (HW.out w2 B2.out)
  clear H1 B1 HW hb2
  rcases ho with ⟨x, rfl⟩ | ⟨N, b, c, rfl, N8, rfl, hz, hc, hF⟩
  · clear HI HV HNil Hq Id Ie
    go_wp2_with fail
    refine H2.out.mono ?_
    rintro e w3 ⟨⟨-, rfl⟩ | ⟨-, ⟨K, hK, h2, rfl⟩ | ⟨h0, ad2, cap2, rfl, hn2, hV2, -⟩⟩, hb3⟩
    all_goals
      have B3 := hideD (beyondD B2.out hb3)
    · clear H2 B2 hb3 s0 s1 s2
      go_wp2_with fail
      go_ret
      exact ⟨rfl, B3.out⟩
    · clear H2 B2 hb3 s0 s1 s2 hK h2
      generalize (addT (L.n K) (L.d K) dn dd).2.2 = t2
      go_wp2_with fail
      go_ret
      exact ⟨rfl, B3.out⟩
    · clear H2 B2 hb3 s0 s1 s2 h0 hn2 hV2
      go_wp2_with fail
      go_ret
      exact ⟨rfl, B3.out⟩
  · have HZ := hideD hz
    have HC := hideD hc
    clear hz hc hF
    go_wp2_with fail
    refine H2.out.mono ?_
    rintro e w3 ⟨⟨-, rfl⟩ | ⟨ro, ⟨K, hK, h2, rfl⟩ | ⟨h0, ad2, cap2, rfl, hn2, hV2, -⟩⟩, hb3⟩
    · have B3 := hideD (beyondD B2.out hb3)
      clear H2 B2 hb3 s0 s1 s2
      go_wp2_with fail
      go_ret
      exact ⟨rfl, B3.out⟩
    · have B3 := hideD (beyondD B2.out hb3)
      clear H2 B2 hb3 s0 s1 s2 hK ro
      generalize (addT (L.n K) (L.d K) dn dd).2.2 = t2 at *
      have h3 : (t2 != 0) = true := by simpa using h2
      clear h2
      go_wp2_with fail
      go_ret
      exact ⟨rfl, B3.out⟩
    · have B3 := hideD (beyondD B2.out hb3)
      have Z3 := hideD (HZ.out.past hb3)
      have s0 := kc _ _ hb3 s0
      have s1 := kc _ _ hb3 s1
      have s2 := kc _ _ hb3 s2
      have HV3 := hideD (HV.out.later B3.out)
      have Ro := hideD ro
      have H0' := hideD h0
      have HN2 := hideD hn2
      have HV2 := hideD hV2
      clear H2 B2 hb3 HV HZ ro h0 hn2 hV2
      by_cases eq : q = N
      · subst eq
        rw [Hq.out] at HN2 H0'
        rw [Hq.out]
        go_wp2_with fail
        go_loopw [11] (fun s wr => ∃ (K : Nat), K ≤ q ∧ s = .int .i64 (K : Int) ∧ wr = w3 ∧ Hid (∀ k, k < K → L.d k ≤ 1000 ∧ L.n k ≤ 1099511627776)) (fun s _ => q - (intOf s).toNat)
        case atStart => exact ⟨0, Nat.zero_le _, rfl, rfl, fun k hk => absurd hk (Nat.not_lt_zero _)⟩
        case round =>
          obtain ⟨K, hK, rfl, rfl, hs⟩ := hrel
          by_cases ck : K < q
          · obtain ⟨gb, off, rfl, v0, v1⟩ := HV3.out K (by rw [Hq.out]; exact ck)
            have k0 : (K : Int) < (q : Int) := by omega
            have k1 : (0 : Int) ≤ (K : Int) := by omega
            have next : Hid (L.d K ≤ 1000 → L.n K ≤ 1099511627776 → ∀ k, k < K + 1 → L.d k ≤ 1000 ∧ L.n k ≤ 1099511627776) := fun a1 a2 k hk => by
              by_cases e : k = K
              · subst e; exact ⟨a1, a2⟩
              · exact hs.out k (by omega)
            clear hs HI Ro H0' HN2 HV2 Id Ie
            generalize L.d K = dk at *
            generalize L.n K = nk at *
            by_cases d1 : dk > 1000
            · clear next
              go_wp2_with fail
              go_ret
              exact ⟨rfl, B3.out⟩
            · by_cases n1 : nk > 1099511627776
              · clear next
                go_wp2_with fail
                go_ret
                exact ⟨rfl, B3.out⟩
              · have next := hideD (next.out (by omega) (by omega))
                go_wp2_with fail
                go_roundw
                case rel => exact ⟨K + 1, by omega, by go_num, by first | rfl | trivial, next⟩
                case measure => simp [intOf]; omega
          · have eK : K = q := by omega
            have k0 : ¬ (K : Int) < (q : Int) := by omega
            have sm := hs.out
            rw [eK] at sm
            obtain ⟨rl, od⟩ := Bool.and_eq_true_iff.1 Ro.out
            have fit : fitB L q = true := by rw [fitB, rl, Hq.out]; simp
            obtain ⟨ln, ld, hn, hd, li, hi, fv, ok, eD, i1, i2, i3, i4, eI⟩ := span_says (c := c) N8 rfl HC.out fit od H0'.out sm
            have HD := hideD (callsIn_wide.1 (delays_in b q ((q + 1) * (q + 1)) q cap ad c L wr N8 rfl Z3.out Hq.out HNil.out HV3.out HI.out fit))
            rw [eD] at HD
            have HL := hideD (fun W => xcmp_any ln ld dn dd W i1 i2 Id.out Ie.out)
            have HH := hideD (fun W => xcmp_any dn dd hn hd W Id.out Ie.out i3 i4)
            have wI : RatI (waitL L dn dd) := fun k hk => by
              obtain ⟨_, y1, y2, _⟩ := wait_ok (((fitB_iff N8).1 fit).2 k (by rw [← Hq.out]; exact hk)) od (H0'.out k (by rw [← Hq.out]; exact hk))
              exact ⟨y1, y2⟩
            have HM := hideD (fun W (hb : Below wr.heap.size wr W) => inP_any b q ((q + 1) * (q + 1)) q cap2 ad2 c (waitL L dn dd) W N8 rfl (Z3.out.past hb) Hq.out (by omega) HN2.out (HV2.out.later hb) wI)
            rw [eI] at HM
            have eB : spanOf ln ld hn hd li hi fv ok dn dd = (of1 ok li (cmpT ln ld dn dd) && (fv || of2 hi (cmpT dn dd hn hd))) := rfl
            rw [eB] at HM
            generalize cmpT ln ld dn dd = x1 at *
            generalize cmpT dn dd hn hd = x2 at *
            clear eK hs sm rl od fit eD i1 i2 i3 i4 eI wI eB HI Ro H0' HN2 HV2 Id Ie HV3 Z3 HC HNil
            go_wp2_with fail
            refine HD.out.mono ?_
            rintro e w4 ⟨rfl, hb4⟩
            have s0 := kc _ _ hb4 s0
            have s1 := kc _ _ hb4 s1
            have s2 := kc _ _ hb4 s2
            have Bq := single w4 (.cells #[.int .i64 ln, .int .i64 ld, .int .i64 hn, .int .i64 hd, .bool li, .bool hi, .bool fv] 45)
            have B4 := hideD hb4
            clear hb4 HD
            go_upto_region 13 with (fail)
            have m1 := kc _ _ Bq s1
            have m2 := kc _ _ Bq s2
            have p0 : (w4.alloc (.cells #[.int .i64 ln, .int .i64 ld, .int .i64 hn, .int .i64 hd, .bool li, .bool hi, .bool fv] 45)).cell? ⟨w4.heap.size, 0, none⟩ = some (.int .i64 ln) := by simp [go_sem]
            have p1 : (w4.alloc (.cells #[.int .i64 ln, .int .i64 ld, .int .i64 hn, .int .i64 hd, .bool li, .bool hi, .bool fv] 45)).cell? ⟨w4.heap.size, 1, none⟩ = some (.int .i64 ld) := by simp [go_sem]
            have p2 : (w4.alloc (.cells #[.int .i64 ln, .int .i64 ld, .int .i64 hn, .int .i64 hd, .bool li, .bool hi, .bool fv] 45)).cell? ⟨w4.heap.size, 2, none⟩ = some (.int .i64 hn) := by simp [go_sem]
            have p3 : (w4.alloc (.cells #[.int .i64 ln, .int .i64 ld, .int .i64 hn, .int .i64 hd, .bool li, .bool hi, .bool fv] 45)).cell? ⟨w4.heap.size, 3, none⟩ = some (.int .i64 hd) := by simp [go_sem]
            have p4 : (w4.alloc (.cells #[.int .i64 ln, .int .i64 ld, .int .i64 hn, .int .i64 hd, .bool li, .bool hi, .bool fv] 45)).cell? ⟨w4.heap.size, 4, none⟩ = some (.bool li) := by simp [go_sem]
            have p5 : (w4.alloc (.cells #[.int .i64 ln, .int .i64 ld, .int .i64 hn, .int .i64 hd, .bool li, .bool hi, .bool fv] 45)).cell? ⟨w4.heap.size, 5, none⟩ = some (.bool hi) := by simp [go_sem]
            have p6 : (w4.alloc (.cells #[.int .i64 ln, .int .i64 ld, .int .i64 hn, .int .i64 hd, .bool li, .bool hi, .bool fv] 45)).cell? ⟨w4.heap.size, 6, none⟩ = some (.bool fv) := by simp [go_sem]
            have B5 := hideD (beyondD B4.out Bq)
            clear Bq B4 s0 s1 s2
            generalize w4.alloc (.cells #[.int .i64 ln, .int .i64 ld, .int .i64 hn, .int .i64 hd, .bool li, .bool hi, .bool fv] 45) = W5 at *
            generalize w4.heap.size = B7 at *
            generalize w.heap.size = B0 at m1 m2 ⊢
            go_wp2_with fail
            refine (HL.out _).mono ?_
            rintro e w6 ⟨rfl, hb6⟩
            have m1 := kc _ _ hb6 m1
            have m2 := kc _ _ hb6 m2
            have p2 := kc _ _ hb6 p2
            have p3 := kc _ _ hb6 p3
            have p4 := kc _ _ hb6 p4
            have p5 := kc _ _ hb6 p5
            have p6 := kc _ _ hb6 p6
            have B6 := hideD (beyondD B5.out hb6)
            clear hb6 HL B5 p0 p1
            go_upto_region 14 with (fail)
            go_cut [15] (fun t wz => wz = w6 ∧ t = .bool (of1 ok li x1))
            case first =>
              cases ok with
              | false =>
                go_wp2_with fail
                go_meet
                exact ⟨rfl, rfl⟩
              | true =>
                by_cases c1 : x1 < 0
                · have E : Hid (of1 true li x1 = true) := by show _ = _; simp [of1, c1]
                  go_wp2_with fail
                  go_meet
                  exact ⟨rfl, by rw [E.out]⟩
                · by_cases c2 : x1 = 0
                  · have E : Hid (of1 true li x1 = li) := by show _ = _; simp [of1, c2]
                    subst c2
                    clear c1
                    go_wp2_with fail
                    go_meet
                    exact ⟨rfl, by rw [E.out]⟩
                  · have E : Hid (of1 true li x1 = false) := by show _ = _; simp [of1, c1, c2]
                    go_wp2_with fail
                    go_meet
                    exact ⟨rfl, by rw [E.out]⟩
            case rest =>
              obtain ⟨rfl, rfl⟩ := hcut
              generalize of1 ok li x1 = ob at *
              cases ob with
              | false =>
                rw [Bool.false_and] at HM
                have H6 := hideD (HM.out _ B6.out)
                clear HM HH
                go_wp2_with fail
                refine H6.out.mono ?_
                rintro e w7 ⟨rfl, hb7⟩
                have B7' := hideD (beyondD B3.out (beyondD B6.out hb7))
                clear H6 hb7 B6 B3
                go_wp2_with fail
                go_ret
                exact ⟨rfl, B7'.out⟩
              | true =>
                rw [Bool.true_and] at HM
                cases fv with
                | true =>
                  rw [Bool.true_or] at HM
                  have H6 := hideD (HM.out _ B6.out)
                  clear HM HH
                  go_wp2_with fail
                  refine H6.out.mono ?_
                  rintro e w7 ⟨rfl, hb7⟩
                  have B7' := hideD (beyondD B3.out (beyondD B6.out hb7))
                  clear H6 hb7 B6 B3
                  go_wp2_with fail
                  go_ret
                  exact ⟨rfl, B7'.out⟩
                | false =>
                  rw [Bool.false_or] at HM
                  go_wp2_with fail
                  refine (HH.out _).mono ?_
                  rintro e w7 ⟨rfl, hb7⟩
                  have p5 := kc _ _ hb7 p5
                  have B7' := hideD (beyondD B6.out hb7)
                  have H7 := hideD (fun W hb => HM.out W (beyondD B7'.out hb))
                  clear HM HH hb7 B6 m1 m2 p2 p3 p4 p6
                  by_cases c1 : x2 < 0
                  · rw [show of2 hi x2 = true by simp [of2, c1]] at H7
                    go_wp2_with fail
                    refine (H7.out _ (Below.refl _ _)).mono ?_
                    rintro e w8 ⟨rfl, hb8⟩
                    have B8 := hideD (beyondD B3.out (beyondD B7'.out hb8))
                    clear H7 hb8 B7' B3
                    go_wp2_with fail
                    go_ret
                    exact ⟨rfl, B8.out⟩
                  · by_cases c2 : x2 = 0
                    · rw [show of2 hi x2 = hi by simp [of2, c2]] at H7
                      subst c2
                      clear c1
                      go_wp2_with fail
                      refine (H7.out _ (Below.refl _ _)).mono ?_
                      rintro e w8 ⟨rfl, hb8⟩
                      have B8 := hideD (beyondD B3.out (beyondD B7'.out hb8))
                      clear H7 hb8 B7' B3
                      go_wp2_with fail
                      go_ret
                      exact ⟨rfl, B8.out⟩
                    · rw [show of2 hi x2 = false by simp [of2, c1, c2]] at H7
                      have c1 : decide (x2 < 0) = false := decide_eq_false c1
                      go_wp2_with fail
                      refine (H7.out _ (Below.refl _ _)).mono ?_
                      rintro e w8 ⟨rfl, hb8⟩
                      have B8 := hideD (beyondD B3.out (beyondD B7'.out hb8))
                      clear H7 hb8 B7' B3
                      go_wp2_with fail
                      go_ret
                      exact ⟨rfl, B8.out⟩
        
      · have ne : ((q : Int) != (N : Int)) = true := by simp; omega
        rw [Hq.out]
        clear HN2 HV2 H0' HV3 Ro Z3 HC HNil HI Id Ie
        go_wp2_with fail
        go_ret
        exact ⟨rfl, B3.out⟩
end Go.Proofs.Ytondgencdcimjaa
