/-
  The contract of ops.Keep.
-/
import Derived.Test.YtfhfdpapppgfpaaGreatDoorOt1z
import Derived.Test.YtfhfdpapppgfpaaGreatDoorOq1z
import Derived.Test.YtfhfdpapppgfpaaGreatDoorCbz
namespace Go.Proofs.YtfhfdpapppgfpaaGreatDoor
open Go.RowKit
set_option linter.unusedVariables false
set_option maxRecDepth 100000
/-- The clocks that are kept, 0 ahead. -/
def kpI (l : List Int) (i : Nat) : Nat := ((0 :: l).getD i 0).toNat
/-- The cells of some of a matrix' clocks. -/
def kpC (q : Nat) (l : List Int) (r : Mat) : Row := fun k => r (kpI l (k / (q + 1))) (kpI l (k % (q + 1)))
/-- What Keep tells: an error, or the draft's zone. -/
def KeepOut (w' : World) (B n : Nat) (e : Ending) (l : List Int) (r : Mat) : Prop :=
  (8 < l.length ∧ e = errOf 6) ∨ (l.length ≤ 8 ∧ hasA n l l.length = false ∧ e = errOf 12) ∨ (l.length ≤ 8 ∧ hasA n l l.length = true ∧ OpsOut w' B l.length e (oR l.length (kpC l.length l r) ((l.length + 1) * (l.length + 1))))
theorem kp_at {n : Nat} {l : List Int} (h : hasA n l l.length = true) (i : Nat) (hi : i ≤ l.length) : ((0 :: l).getD i 0) = (kpI l i : Int) ∧ kpI l i ≤ n := by
  unfold kpI
  match i with
  | 0 => exact ⟨rfl, by simp⟩
  | i + 1 =>
    have := hasA_at h i (by omega)
    have e : (0 :: l).getD (i + 1) 0 = l.getD i 0 := rfl
    rw [e]
    omega
theorem info_int' : (Tryz.prog.info? 3).map (fun i => (i.zero, i.size, i.bytes)) = some (some (.int .i64 0), 1, 8) := by kernel_rfl
set_option maxHeartbeats 4000000 in
theorem keep_main (b n q cap : Nat) (ad : Option Addr) (c : Row) (l : List Int) (w : World) (h : n ≤ 8) (hz : ZoneAt w b n c) (hc : C32 c) (hl : l.length = q) (hv : IntsAt w (.slice ad q cap) l) (hq : q ≤ 9223372036854775807) (hnil : ad = none → q = 0 ∧ cap = 0) :
    Calls Tryz.prog 16 #[.pointer (some ⟨b, 0, none⟩), .slice ad q cap] w fun e w' => KeepOut w' w.heap.size n e l (oR n c ((n + 1) * (n + 1))) ∧ Below w.heap.size w w' := by
  by_cases q8 : 8 < q
  · have q8' : (8 : Int) < (q : Int) := by omega
    have HO : Hid (8 < l.length) := by show _ < _; omega
    clear hz hc hv hnil
    go_enter Tryz.func16, Tryz.ntmps16
    go_wp2_with fail
    exact bodyPost_ret (v := .tuple #[.pointer none, .int .i64 6]) (by simp [results, Tryz.results16, go_sem]) rfl ⟨.inl ⟨HO.out, rfl⟩, Below.refl _ _⟩
  · have q8' : ¬ ((8 : Int) < (q : Int)) := by omega
    have HD := hideD (odraft_any b n c w h hz)
    have H32 := hideD (oR_32 (n := n) (K := (n + 1) * (n + 1)) hc)
    generalize oR n c ((n + 1) * (n + 1)) = r at *
    have HH : Hid (∀ w', Below w.heap.size w w' → Calls Tryz.prog 47 #[.agg #[.int .i64 n], .slice ad q cap] w' fun e w'' => e = .returned (.bool (hasA n l q)) ∧ Below w'.heap.size w' w'') := fun w' hb => by
      have := ohas_any n (.slice ad q cap) l w' h (by omega) (hv.past hb)
      rw [hl] at this
      exact this
    have HN : Hid (∀ w', Below w.heap.size w w' → ∀ d, ad = some d → ∀ j u, (l.map (Value.int .i64))[j]? = some u → w'.cell? (d.add j) = some u) := fun w' hb' d hd j u hj => by
      have h := hv.past hb'
      rw [List.getElem?_map] at hj
      by_cases hjl : j < l.length
      · rw [List.getElem?_eq_getElem hjl] at hj
        injection hj with hj
        rcases h with ⟨a, c, e, e'⟩ | ⟨cb', off', cap', e, hcell⟩
        · subst e'; simp at hjl
        · injection e with e1 e2 e3
          rw [e1] at hd
          injection hd with hd
          subst hd
          have : w'.cell? ((⟨cb', off', none⟩ : Addr).add j) = some (.int .i64 (l.getD j 0)) := by rw [add_at]; exact hcell j hjl
          rw [show l.getD j 0 = l[j] by simp [List.getD, hjl]] at this
          rw [← hj]
          exact this
      · rw [List.getElem?_eq_none (by omega)] at hj; cases hj
    obtain ⟨i0, hi0, hz0, hz1, hz2⟩ := info_parts info_int'
    have HL : Hid (l.length = q ∧ q ≤ 8) := ⟨hl, by omega⟩
    have HNI := hideD hnil
    clear hz hc hv hl hnil
    go_enter Tryz.func16, Tryz.ntmps16
    go_wp2_with fail
    refine HD.out.mono ?_
    rintro e w1 ⟨⟨d, rfl, hd, hD⟩, hb⟩
    have hD1 := hideD hD
    have hB1 := hideD hb
    have q0 := hD.clocks
    have HA := hideD (HH.out w1 hb)
    have dl := hideD hd
    clear hD hb HD HH hd
    go_wp2_with fail
    refine HA.out.mono ?_
    rintro e w2 ⟨rfl, hb2⟩
    have B2 := hideD (beyondD hB1.out hb2)
    have D2 := hideD (hD1.out.past hb2)
    clear HA hb2 hB1 hD1 q0
    cases ha : hasA n l q with
    | false =>
      have HX : Hid (l.length ≤ 8 ∧ hasA n l l.length = false) := ⟨by have := HL.out; omega, by rw [HL.out.1]; exact ha⟩
      clear ha D2 HN
      go_wp2_with fail
      exact bodyPost_ret (v := .tuple #[.pointer none, .int .i64 12]) (by simp [results, Tryz.results16, go_sem]) rfl ⟨.inr (.inl ⟨HX.out.1, HX.out.2, rfl⟩), B2.out⟩
    | true =>
      have HX : Hid (l.length ≤ 8 ∧ hasA n l l.length = true) := ⟨by have := HL.out; omega, by rw [HL.out.1]; exact ha⟩
      clear ha
      go_upto_region 8 with (fail)
      have O0 : Hid ((w2.alloc (.cells #[.int .i64 0] 3)).ownsRow w2.heap.size 3 1 (.slice (some ⟨w2.heap.size, 0, none⟩) 1 1) 1 [.int .i64 0]) := own_one _ _ _
      have Bz : Hid (Below w2.heap.size w2 (w2.alloc (.cells #[.int .i64 0] 3))) := below_one _ _
      have Bs : Hid (w2.heap.size ≤ (w2.alloc (.cells #[.int .i64 0] 3)).heap.size) := by show _ ≤ _; simp
      have HNa := hideD (HN.out _ (beyondD B2.out Bz.out))
      go_cut [7] (fun v wx => RowV wx v w2.heap.size (0 :: l) ∧ Hid (Below w2.heap.size w2 wx))
      case first =>
        clear HN D2 B2 H32
        go_wp2_with (at_builtin; refine wp_app_any _ rfl _ _ 23 rfl w2.heap.size 3 i0 (.int .i64 0) 1 8 Tryz.underlying23 hi0 hz0 hz1 hz2 rfl (by decide) (.slice (some ⟨w2.heap.size, 0, none⟩) 1 1) 1 [.int .i64 0] rfl O0.out ad q cap (l.map (Value.int .i64)) rfl HNI.out (by have := HL.out; simp; omega) HNa.out (fun u hu => by obtain ⟨y, _, rfl⟩ := List.mem_map.1 hu; rfl) (by have := HL.out; unfold maxLen; omega) (by have := HL.out; omega) Bs.out ?_; intro v' w3 hown hgrow)
        have hb3 : Below w2.heap.size w2 w3 := by
          rcases hgrow with hg | hg
          · rw [hg]; exact Bz.out
          · exact Bz.out.grown hg (by simp) (fun k hk => by simp [Value.ownBlock] at hk; omega)
        have e1 : 1 + q = (0 :: l).length := by have := HL.out; simp; omega
        rw [e1] at hown
        have hown' : w3.ownsRow w2.heap.size 3 1 v' (0 :: l).length (((0 :: l) : List Int).map (Value.int .i64)) := hown
        obtain ⟨g, cp, rfl⟩ := own_form hown'
        have lt := hown'.lt g rfl
        have HR : RowV w3 (.slice (some ⟨g, 0, none⟩) (0 :: l).length cp) w2.heap.size (0 :: l) := ⟨g, cp, rfl, lt.1, fun j hj => by
          rw [hown'.cellAt j (by have := HL.out; simp at hj ⊢; omega), List.getElem?_map, List.getElem?_eq_getElem hj]
          simp [List.getD, List.getElem?_eq_getElem hj], fun a => hown'.frozenAt a⟩
        go_meet
        exact ⟨HR, hb3⟩
      case rest =>
        obtain ⟨⟨g, cp, rfl, gl, hcell, hfz⟩, hB3⟩ := hcut
        obtain ⟨w3, h3⟩ : ∃ w3, w3 = wc := ⟨_, rfl⟩
        subst h3
        have eL : ((0 :: l) : List Int).length = q + 1 := by have := HL.out; simp; omega
        rw [eL] at hcell ⊢
        have KN : Hid (∀ j, j ≤ q → kpI l j ≤ n) := fun j hj => (kp_at HX.out.2 j (by have := HL.out; omega)).2
        have KC : Hid (∀ j, j ≤ q → w3.cell? ⟨g, j, none⟩ = some (.int .i64 (kpI l j : Int))) := fun j hj => by
          rw [← (kp_at HX.out.2 j (by have := HL.out; omega)).1]
          exact hcell j (by omega)
        have D3 := hideD (D2.out.past hB3.out)
        have B3 := hideD (beyondD B2.out hB3.out)
        have Z := fun w => zeroO w
        have Zn := y82_ne
        have N0 := hideD (new_odraft w3 q 80)
        have B0 : Hid (Below w3.heap.size w3 (w3.alloc (.cells (y82.setIfInBounds 0 (.int .i64 q)) 80))) := below_one _ _
        clear hcell hfz eL gl hB3 D2 B2 O0 Bz Bs HNa HN hi0 hz0 hz1 hz2 HNI
        go_upto_region 10 with (fail)
        clear Z Zn
        generalize w3.alloc (.cells (y82.setIfInBounds 0 (.int .i64 q)) 80) = w4 at *
        obtain ⟨d4, hd4⟩ : ∃ d4, d4 = w3.heap.size := ⟨_, rfl⟩
        have L4 : Hid (w3.heap.size ≤ d4) := by show _ ≤ _; omega
        have L5 : Hid (w.heap.size ≤ d4) := by have := B3.out.size; show _ ≤ _; omega
        rw [← hd4] at N0
        try rw [← hd4]
        obtain ⟨C, hC⟩ : ∃ C, C = kpC q l r := ⟨_, rfl⟩
        have HC := hideD hC
        have e0 : (fun _ _ => (0 : Int)) = oR q C 0 := by funext a b; simp [oR]
        rw [e0] at N0
        clear e0 hd4 hC
        have cq : ((q + 1 : Nat) : Int) = (q : Int) + 1 := by omega
        have CV : Hid (∀ i j, i ≤ q → j ≤ q → C (i * (q + 1) + j) = r (kpI l i) (kpI l j)) := fun i j hi hj => by rw [HC.out]; unfold kpC; rw [place_div hj, place_mod hj]
        have NXT : Hid (∀ i j, i ≤ q → j ≤ q → upd (oR q C (i * (q + 1) + j)) i j (C (i * (q + 1) + j)) = oR q C (i * (q + 1) + (j + 1))) := fun i j hi hj => by
          have := oR_next q C (i * (q + 1) + j)
          rw [place_div hj, place_mod hj] at this
          exact this
        have C32' : Hid (C32 C) := fun k => by rw [HC.out]; exact H32.out _ _
        have ROW : Hid (∀ i, i * (q + 1) + (q + 1) = (i + 1) * (q + 1)) := fun i => by rw [Nat.add_mul, Nat.one_mul]
        have qq : q ≤ 8 := by omega
        clear H32
        go_wp2_with fail
        go_loopg [37] (q + 1) (fun g' s wr => ∃ (i : Nat), i ≤ q + 1 ∧ g' = q + 1 - i ∧ s = .int .i64 (i : Int) ∧ Hid (ODraft wr d4 q (oR q C (i * (q + 1)))) ∧ Hid (Below w3.heap.size w3 wr))
        case atStart => exact ⟨0, by omega, rfl, rfl, by rw [Nat.zero_mul]; exact N0, B0⟩
        case round =>
          obtain ⟨i, hi, rfl, rfl, hN, hB⟩ := hrel
          clear N0 B0
          obtain ⟨wo, ho⟩ : ∃ wo, wo = wr := ⟨_, rfl⟩
          subst ho
          by_cases ci : i ≤ q
          · have ci1 : (i : Int) < (q : Int) + 1 := by omega
            have i0' : (0 : Int) ≤ (i : Int) := by omega
            have k1 := kc _ _ hB.out (KC.out i ci)
            have N1 : Hid (ODraft wo d4 q (oR q C (i * (q + 1) + 0))) := hN
            clear hN
            go_wp2_with fail
            go_loopg [44] (q + 1) (fun g' s wr => ∃ (j : Nat), j ≤ q + 1 ∧ g' = q + 1 - j ∧ s = .int .i64 (j : Int) ∧ Hid (ODraft wr d4 q (oR q C (i * (q + 1) + j))) ∧ Hid (Below w3.heap.size w3 wr))
            case atStart => exact ⟨0, by omega, rfl, rfl, N1, hB⟩
            case round =>
              obtain ⟨j, hj, rfl, rfl, hN, hB'⟩ := hrel
              clear N1 hB k1
              by_cases cj : j ≤ q
              · have cj1 : (j : Int) < (q : Int) + 1 := by omega
                have j0' : (0 : Int) ≤ (j : Int) := by omega
                have k2 := kc _ _ hB'.out (KC.out j cj)
                have a8 := KN.out i ci
                have b8 := KN.out j cj
                have OD := D3.out.past hB'.out
                have q3 := OD.cell (kpI l i) (kpI l j) (by omega) (by omega)
                have q1 := hN.out.cell i j (by omega) (by omega)
                have q2 := hN.out.free i j (by omega) (by omega)
                have nx := hideD (NXT.out i j ci cj)
                have cvv := CV.out i j ci cj
                have hN3 := hideD (hN.out.set (i := i) (j := j) (by omega) (by omega) (C (i * (q + 1) + j)))
                rw [nx.out] at hN3
                have hB3' := hideD (hB'.out.setCell (p := at9 d4 i j) L4.out (.int .i32 (C (i * (q + 1) + j))))
                rw [cvv] at hN3 hB3'
                generalize r (kpI l i) (kpI l j) = y at *
                generalize oR q C (i * (q + 1) + j) i j = y0 at *
                have A9 : (kpI l i : Int) < 9 := by omega
                have B9 : (kpI l j : Int) < 9 := by omega
                have I9 : (i : Int) < 9 := by omega
                have J9 : (j : Int) < 9 := by omega
                generalize kpI l i = A at *
                generalize kpI l j = Bk at *
                clear hN hB' OD nx cvv KC KN D3 CV NXT a8 b8
                go_upto_region 16 with (fail)
                clear k2
                go_big_region
                all_goals
                  have hN4 := hideD (hN3.out.drew)
                  have hB4 := hideD (hB3'.out.drew)
                  go_wp2_with fail
                  go_roundg (q + 1 - (j + 1))
                  case measure => omega
                  case rel => exact ⟨j + 1, by omega, rfl, by go_num, by first | exact hN4 | exact hN3, by first | exact hB4 | exact hB3'⟩
              · have cj1 : ¬ ((j : Int) < (q : Int) + 1) := by omega
                obtain rfl : j = q + 1 := by omega
                have hN5 := hN.out
                rw [ROW.out i] at hN5
                have hN6 := hideD hN5
                clear hN hN5 KC KN D3 CV NXT
                go_wp2_with fail
                go_roundg (q + 1 - (i + 1))
                case measure => omega
                case rel => exact ⟨i + 1, by omega, rfl, by go_num, hN6, hB'⟩
          · have ci1 : ¬ ((i : Int) < (q : Int) + 1) := by omega
            have ei : i * (q + 1) = (q + 1) * (q + 1) := by rw [show i = q + 1 by omega]
            have hN5 := hN.out
            rw [ei] at hN5
            have B5 : Hid (Below w.heap.size w wo) := beyondD B3.out hB.out
            have HZ := hideD (ozone_out d4 q w.heap.size _ wo qq hN5 (oR_32 C32'.out) B5.out.size)
            have FIN : Hid (∀ w' e, OpsOut w' w.heap.size q e (oR q C ((q + 1) * (q + 1))) → KeepOut w' w.heap.size n e l r) := fun w' e ho => .inr (.inr ⟨HX.out.1, HX.out.2, by rw [HL.out.1, ← HC.out]; exact ho⟩)
            clear hN hN5 ei KC KN D3 CV NXT C32' ROW
            go_wp2_with fail
            refine HZ.out.mono ?_
            rintro e w5 ⟨p, kk, rfl, ho, hb⟩
            go_wp2_with fail
            exact bodyPost_ret (v := .tuple #[.pointer p, .int .i64 kk]) (by simp [results, Tryz.results16, go_sem]) rfl ⟨FIN.out _ _ ho.out, beyondD B5.out hb.out⟩
end Go.Proofs.YtfhfdpapppgfpaaGreatDoor
