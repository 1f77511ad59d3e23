/-
  The walk of FedPlays.
-/
import Derived.Test.YtnfkmpickmonoaaQ52
import Derived.Test.YtnfkmpickmonoaaQ49
import Derived.Test.YtnfkmpickmonoaaQ50
namespace Go.Proofs.Ytnfkmpickmonoaa
open Go.RowKit Go.Shelf
set_option linter.unusedVariables false
set_option maxRecDepth 100000
attribute [local go_sem] Oper.semAt_some
theorem two_cells (W : World) (v : Value) (t : TypeId) : (W.alloc (.cells #[v, v] t)).cell? ⟨W.heap.size, 0, none⟩ = some v ∧ (W.alloc (.cells #[v, v] t)).cell? ⟨W.heap.size, 1, none⟩ = some v := by
  constructor <;> simp [go_sem]
theorem bel_out {w A C : World} (h : Below w.heap.size w A) (hb : Below A.heap.size A C) : Below w.heap.size w C := h.trans (hb.mono h.size)
set_option maxHeartbeats 8000000 in
theorem fedPlays.walk (n : Int) (hn : (Lit.int .i64 n).wf = true) (ad : Option Addr) (len cap : Nat) (nl : Bool) (V : Nat → Value) (L : Nat → List Int) (v : Value) (l : List Int) (w : World) (hB : Bss w ad len V L) (hS : SliceAt w v l) (wf : ∀ z ∈ l, (Lit.int .i32 z).wf = true) (hby : l.length * 4 ≤ 140737488355328) (hnl : ∀ {c}, v = .slice none 0 c → c = 0) :
    Calls Try.prog 3 #[.int .i64 n, .agg #[.slice ad len cap, .bool nl], v] w fun e w' => e = .returned (.bool true) ∧ Below w.heap.size w w' := by
  have B1 := hideD (below_one w (.cells #[.slice ad len cap, .bool nl] 24))
  have HB := hideD (both7_any n ad len cap nl V L (w.alloc (.cells #[.slice ad len cap, .bool nl] 24)) (fun k hk => by
    obtain ⟨b, off, h1, h2, h3, h4⟩ := hB k hk
    exact ⟨b, off, h1, kc _ _ B1.out h2, h3.past7 B1.out, h4⟩))
  have HL : Hid (∀ w : World, Calls Try.prog 11 #[] w fun e w' => e = .returned (.bool true) ∧ Below w.heap.size w w') := flive_any
  have HS := hideD (fun W (h : Below w.heap.size w W) => two_of7 n v l W (hS.past7 h) (wf_cells7 wf) (by omega))
  clear hB hn hS wf hby hnl
  go_enter Try.func3, Try.ntmps3
  go_wp2_with fail
  refine HB.out.mono ?_
  rintro e w2 ⟨⟨es, va, vb, rfl, hl, h7⟩, hb⟩
  have B2 := hideD (B1.out.trans (hb.mono (by simp)))
  obtain ⟨N, m, k1, u, hF, huN, hlen, sp, sr⟩ := news7b h7 hl
  obtain ⟨k0, o, op, or', zc, hM⟩ := HS.out w2 B2.out
  have FN := hideD hF
  have FO : Hid (Fits7 N m u o) := ⟨hF.1, hF.2.1, fun hu M c ho => by have h1 := huN hu; have h2 := hM M c ho; omega⟩
  have HLEN := hideD hlen
  have SP := hideD sp
  have SR := hideD sr
  have OP := hideD op
  have OR := hideD or'
  have ZCO := hideD zc
  clear hb h7 HB B1 hF huN hlen sp sr op or' zc hM hl HS
  go_wp2_with fail
  have BC : Hid (Below w2.heap.size w2 w2) := Below.refl _ _
  have BW := hideD B2.out
  refine (OP.out _ BC.out).mono ?_
  rintro e w3 ⟨⟨zp, rfl, hz⟩, hb⟩
  replace hb := hb.out
  have BC := hideD (bel_out BC.out hb)
  have BW := hideD (bel_out BW.out hb)
  have HZ := hideD hz.out
  clear hb hz OP
  go_wp2_with fail
  refine (OR.out _ BC.out).mono ?_
  rintro e w4 ⟨⟨zr, rfl, hy⟩, hb⟩
  replace hb := hb.out
  have HZ := hideD (HZ.out.past hb)
  have BC := hideD (bel_out BC.out hb)
  have BW := hideD (bel_out BW.out hb)
  have HY := hideD hy.out
  clear hb hy OR
  go_wp2_with fail
  refine (SP.out _ BC.out).mono ?_
  rintro e w5 ⟨⟨p, rfl, hp⟩, hb⟩
  replace hb := hb.out
  have HZ := hideD (HZ.out.past hb)
  have HY := hideD (HY.out.past hb)
  have BC := hideD (bel_out BC.out hb)
  have BW := hideD (bel_out BW.out hb)
  have HP := hideD hp.out
  clear hb hp SP
  go_wp2_with fail
  refine (SR.out _ BC.out).mono ?_
  rintro e w6 ⟨⟨r, rfl, hr⟩, hb⟩
  replace hb := hb.out
  have HZ := hideD (HZ.out.past hb)
  have HY := hideD (HY.out.past hb)
  have HP := hideD (HP.out.past hb)
  have BC := hideD (bel_out BC.out hb)
  have BW := hideD (bel_out BW.out hb)
  have HR := hideD hr.out
  clear hb hr SR
  go_wp2_with fail
  refine (HL.out _).mono ?_
  rintro e w7 ⟨rfl, hb⟩
  have HZ := hideD (HZ.out.past hb)
  have HY := hideD (HY.out.past hb)
  have HP := hideD (HP.out.past hb)
  have HR := hideD (HR.out.past hb)
  have BW := hideD (bel_out BW.out hb)
  clear hb
  go_wp2_with fail
  refine (same7_both FN.out HP.out HR.out).mono ?_
  rintro e w8 ⟨rfl, hb⟩
  have HZ := hideD (HZ.out.past hb)
  have HY := hideD (HY.out.past hb)
  have HP := hideD (HP.out.past hb)
  have HR := hideD (HR.out.past hb)
  have BW := hideD (bel_out BW.out hb)
  clear hb
  go_wp2_with fail
  obtain ⟨k2, u2, sp2, sr2⟩ := two_plus FO.out HLEN.out HP.out HR.out HZ.out HY.out ZCO.out
  have SP2 := hideD sp2
  have SR2 := hideD sr2
  have BC : Hid (Below w8.heap.size w8 w8) := Below.refl _ _
  clear sp2 sr2
  have c0 := two_cells w8 (.pointer zp) 30
  have b0 := below_one w8 (.cells #[.pointer zp, .pointer zp] 30)
  have HPL := hideD (SP2.out (w8.alloc (.cells #[.pointer zp, .pointer zp] 30)) w8.heap.size 2 (bel_out BC.out b0) c0.1 c0.2)
  have B0 := hideD b0
  clear c0 b0
  refine HPL.out.mono ?_
  rintro e w9 ⟨⟨p2, rfl, hp2⟩, hb⟩
  replace hb := bel_out B0.out hb.out
  have HZ := hideD (HZ.out.past hb)
  have HY := hideD (HY.out.past hb)
  have HP := hideD (HP.out.past hb)
  have HR := hideD (HR.out.past hb)
  have BC := hideD (bel_out BC.out hb)
  have BW := hideD (bel_out BW.out hb)
  have HP2 := hideD hp2.out
  clear hb hp2 HPL B0 SP2
  go_wp2_with fail
  have c0 := two_cells w9 (.pointer zr) 34
  have b0 := below_one w9 (.cells #[.pointer zr, .pointer zr] 34)
  have HPL := hideD (SR2.out (w9.alloc (.cells #[.pointer zr, .pointer zr] 34)) w9.heap.size 2 (bel_out BC.out b0) c0.1 c0.2)
  have B0 := hideD b0
  clear c0 b0
  refine HPL.out.mono ?_
  rintro e w10 ⟨⟨r2, rfl, hr2⟩, hb⟩
  replace hb := bel_out B0.out hb.out
  have HZ := hideD (HZ.out.past hb)
  have HY := hideD (HY.out.past hb)
  have HP := hideD (HP.out.past hb)
  have HR := hideD (HR.out.past hb)
  have HP2 := hideD (HP2.out.past hb)
  have BC := hideD (bel_out BC.out hb)
  have BW := hideD (bel_out BW.out hb)
  have HR2 := hideD hr2.out
  clear hb hr2 HPL B0 SR2
  go_wp2_with fail
  refine (same7_both (u := u2) ⟨FN.out.1, FN.out.2.1, fun _ M c h => by cases h⟩ HP2.out HR2.out).mono ?_
  rintro e w11 ⟨rfl, hb⟩
  have HZ := hideD (HZ.out.past hb)
  have HY := hideD (HY.out.past hb)
  have HP := hideD (HP.out.past hb)
  have HR := hideD (HR.out.past hb)
  have HP2 := hideD (HP2.out.past hb)
  have HR2 := hideD (HR2.out.past hb)
  have BW := hideD (bel_out BW.out hb)
  clear hb
  go_wp2_with fail
  clear HP2 HR2
  obtain ⟨k3, u3, sp3, sr3⟩ := two_minus FO.out HP.out HR.out HZ.out HY.out ZCO.out
  have SP3 := hideD sp3
  have SR3 := hideD sr3
  have BC : Hid (Below w11.heap.size w11 w11) := Below.refl _ _
  clear sp3 sr3
  refine (SP3.out _ BC.out).mono ?_
  rintro e w12 ⟨⟨p3, rfl, hp⟩, hb⟩
  replace hb := hb.out
  have HZ := hideD (HZ.out.past hb)
  have HY := hideD (HY.out.past hb)
  have HP := hideD (HP.out.past hb)
  have HR := hideD (HR.out.past hb)
  have BC := hideD (bel_out BC.out hb)
  have BW := hideD (bel_out BW.out hb)
  have HP3 := hideD hp.out
  clear hb hp SP3
  go_wp2_with fail
  refine (SR3.out _ BC.out).mono ?_
  rintro e w13 ⟨⟨r3, rfl, hr⟩, hb⟩
  replace hb := hb.out
  have HZ := hideD (HZ.out.past hb)
  have HY := hideD (HY.out.past hb)
  have HP := hideD (HP.out.past hb)
  have HR := hideD (HR.out.past hb)
  have HP3 := hideD (HP3.out.past hb)
  have BC := hideD (bel_out BC.out hb)
  have BW := hideD (bel_out BW.out hb)
  have HR3 := hideD hr.out
  clear hb hr SR3
  go_wp2_with fail
  refine (same7_both (u := u3) ⟨FN.out.1, FN.out.2.1, fun _ M c h => by cases h⟩ HP3.out HR3.out).mono ?_
  rintro e w14 ⟨rfl, hb⟩
  have HZ := hideD (HZ.out.past hb)
  have HY := hideD (HY.out.past hb)
  have HP := hideD (HP.out.past hb)
  have HR := hideD (HR.out.past hb)
  have HP3 := hideD (HP3.out.past hb)
  have HR3 := hideD (HR3.out.past hb)
  have BW := hideD (bel_out BW.out hb)
  clear hb
  go_wp2_with fail
  clear HP3 HR3
  obtain ⟨k4, u4, sp4, sr4⟩ := two_meet FO.out HP.out HR.out HZ.out HY.out ZCO.out
  have SP4 := hideD sp4
  have SR4 := hideD sr4
  have BC : Hid (Below w14.heap.size w14 w14) := Below.refl _ _
  clear sp4 sr4
  refine (SP4.out _ BC.out).mono ?_
  rintro e w15 ⟨⟨p4, rfl, hp⟩, hb⟩
  replace hb := hb.out
  have HZ := hideD (HZ.out.past hb)
  have HY := hideD (HY.out.past hb)
  have HP := hideD (HP.out.past hb)
  have HR := hideD (HR.out.past hb)
  have BC := hideD (bel_out BC.out hb)
  have BW := hideD (bel_out BW.out hb)
  have HP4 := hideD hp.out
  clear hb hp SP4
  go_wp2_with fail
  refine (SR4.out _ BC.out).mono ?_
  rintro e w16 ⟨⟨r4, rfl, hr⟩, hb⟩
  replace hb := hb.out
  have HZ := hideD (HZ.out.past hb)
  have HY := hideD (HY.out.past hb)
  have HP := hideD (HP.out.past hb)
  have HR := hideD (HR.out.past hb)
  have HP4 := hideD (HP4.out.past hb)
  have BC := hideD (bel_out BC.out hb)
  have BW := hideD (bel_out BW.out hb)
  have HR4 := hideD hr.out
  clear hb hr SR4
  go_wp2_with fail
  refine (same7_both (u := u4) ⟨FN.out.1, FN.out.2.1, fun _ M c h => by cases h⟩ HP4.out HR4.out).mono ?_
  rintro e w17 ⟨rfl, hb⟩
  have HZ := hideD (HZ.out.past hb)
  have HY := hideD (HY.out.past hb)
  have HP := hideD (HP.out.past hb)
  have HR := hideD (HR.out.past hb)
  have HP4 := hideD (HP4.out.past hb)
  have HR4 := hideD (HR4.out.past hb)
  have BW := hideD (bel_out BW.out hb)
  clear hb
  go_wp2_with fail
  clear HP4 HR4
  refine (same7_both FN.out HP.out HR.out).mono ?_
  rintro e w18 ⟨rfl, hb⟩
  have HZ := hideD (HZ.out.past hb)
  have HY := hideD (HY.out.past hb)
  have HP := hideD (HP.out.past hb)
  have HR := hideD (HR.out.past hb)
  have BW := hideD (bel_out BW.out hb)
  clear hb
  go_wp2_with fail
  obtain ⟨u5, sp5, sr5⟩ := two_fewer FN.out HP.out HR.out
  have SP5 := hideD sp5
  have SR5 := hideD sr5
  have BC : Hid (Below w18.heap.size w18 w18) := Below.refl _ _
  clear sp5 sr5
  refine (SP5.out _ BC.out).mono ?_
  rintro e w19 ⟨⟨p5, rfl, hp⟩, hb⟩
  replace hb := hb.out
  have HZ := hideD (HZ.out.past hb)
  have HY := hideD (HY.out.past hb)
  have HP := hideD (HP.out.past hb)
  have HR := hideD (HR.out.past hb)
  have BC := hideD (bel_out BC.out hb)
  have BW := hideD (bel_out BW.out hb)
  have HP5 := hideD hp.out
  clear hb hp SP5
  go_wp2_with fail
  refine (SR5.out _ BC.out).mono ?_
  rintro e w20 ⟨⟨r5, rfl, hr⟩, hb⟩
  replace hb := hb.out
  have HZ := hideD (HZ.out.past hb)
  have HY := hideD (HY.out.past hb)
  have HP := hideD (HP.out.past hb)
  have HR := hideD (HR.out.past hb)
  have HP5 := hideD (HP5.out.past hb)
  have BC := hideD (bel_out BC.out hb)
  have BW := hideD (bel_out BW.out hb)
  have HR5 := hideD hr.out
  clear hb hr SR5
  go_wp2_with fail
  refine (same7_both (u := u5) ⟨FN.out.1, FN.out.2.1, fun _ M c h => by cases h⟩ HP5.out HR5.out).mono ?_
  rintro e w21 ⟨rfl, hb⟩
  have HZ := hideD (HZ.out.past hb)
  have HY := hideD (HY.out.past hb)
  have HP := hideD (HP.out.past hb)
  have HR := hideD (HR.out.past hb)
  have HP5 := hideD (HP5.out.past hb)
  have HR5 := hideD (HR5.out.past hb)
  have BW := hideD (bel_out BW.out hb)
  clear hb
  go_wp2_with fail
  go_ret
  exact ⟨rfl, BW.out⟩
end Go.Proofs.Ytnfkmpickmonoaa
