/-
  The document's text, step by step.
-/
import Derived.Test.YtmnhbokiibaopaaDoorQn
namespace Go.Proofs.YtmnhbokiibaopaaDoor
open Go.RowKit
set_option linter.unusedVariables false
theorem cat_assoc (a b c : ByteArray) : a ++ b ++ c = a ++ (b ++ c) := ByteArray.append_assoc
theorem str_app (a b : List UInt8) : str a ++ str b = str (a ++ b) := by
  apply ByteArray.ext
  simp [ByteArray.data_append]
set_option maxRecDepth 100000 in
theorem text1 (bk off cap i n : Nat) (N : Int) (vv : Value) (hi : i < n) (w : World) (x0 : w.cell? ⟨bk, off + i * 2, none⟩ = some (.int .u8 1)) (x1 : w.cell? ⟨bk, off + i * 2 + 1, none⟩ = some (.int .i64 N)) (l0 : -9223372036854775808 ≤ N) (l1 : N ≤ 9223372036854775807) (hP : Pow w) :
    Calls Tryd.prog 65 #[.slice (some ⟨bk, off, none⟩) n cap, .int .i64 (i : Int), vv] w fun e w' => e = .returned (.string (str (Lib.itoa N))) ∧ Below w.heap.size w w' := by
  have k0 : (0 : Int) ≤ (i : Int) := by omega
  have k1 : (i : Int) < (n : Int) := by omega
  have F := hideR (itoa_any N l0 l1 w hP)
  clear hP
  go_enter Tryd.func65, Tryd.ntmps65
  go_wp2_with fail
  refine F.out.mono ?_
  rintro e w1 ⟨rfl, hb⟩
  have B := hideR hb
  clear hb F
  go_wp2_with fail
  exact bodyPost_ret (v := .string (str (Lib.itoa N))) (by simp [results, Tryd.results65, go_sem]) rfl ⟨rfl, B.out⟩
set_option maxRecDepth 100000 in
theorem text2 (bk off cap i n : Nat) (N nn vb vo vc : Nat) (s : ByteArray) (hi : i < n) (hN : N < nn) (w : World) (x0 : w.cell? ⟨bk, off + i * 2, none⟩ = some (.int .u8 2)) (x1 : w.cell? ⟨bk, off + i * 2 + 1, none⟩ = some (.int .i64 (N : Int))) (hc : w.cell? ⟨vb, vo + N, none⟩ = some (.string s)) :
    Calls Tryd.prog 65 #[.slice (some ⟨bk, off, none⟩) n cap, .int .i64 (i : Int), .slice (some ⟨vb, vo, none⟩) nn vc] w fun e w' => e = .returned (.string s) ∧ Below w.heap.size w w' := by
  have k0 : (0 : Int) ≤ (i : Int) := by omega
  have k1 : (i : Int) < (n : Int) := by omega
  have k2 : (N : Int) < (nn : Int) := by omega
  go_enter Tryd.func65, Tryd.ntmps65
  go_wp2_with fail
  exact bodyPost_ret (v := .string s) (by simp [results, Tryd.results65, go_sem]) rfl ⟨rfl, Below.refl _ _⟩
set_option maxRecDepth 100000 in
theorem text7 (bk off cap i n : Nat) (vv : Value) (hi : i < n) (w : World) (x0 : w.cell? ⟨bk, off + i * 2, none⟩ = some (.int .u8 7)) :
    Calls Tryd.prog 65 #[.slice (some ⟨bk, off, none⟩) n cap, .int .i64 (i : Int), vv] w fun e w' => e = .returned (.string (str [116, 114, 117, 101])) ∧ Below w.heap.size w w' := by
  have k0 : (0 : Int) ≤ (i : Int) := by omega
  have k1 : (i : Int) < (n : Int) := by omega
  go_enter Tryd.func65, Tryd.ntmps65
  go_wp2_with fail
  exact bodyPost_ret (v := .string (str [116, 114, 117, 101])) (by simp [results, Tryd.results65, go_sem]) rfl ⟨rfl, Below.refl _ _⟩
set_option maxRecDepth 100000 in
theorem text3 (bk off cap i n : Nat) (vv : Value) (u : Txt) (hi : i < n) (hn : n ≤ 64) (w : World) (x0 : w.cell? ⟨bk, off + i * 2, none⟩ = some (.int .u8 3)) (hz : u.1.size ≤ 9007199254741504)
    (PA : Hid (∀ W, Below w.heap.size w W → Calls Tryd.prog 81 #[.slice (some ⟨bk, off, none⟩) n cap, .int .i64 ((i : Int) + 1), .int .i64 6, vv] W fun e w' => e = .returned (.string (inT 6 u)) ∧ Below W.heap.size W w')) :
    Calls Tryd.prog 65 #[.slice (some ⟨bk, off, none⟩) n cap, .int .i64 (i : Int), vv] w fun e w' => e = .returned (.string (str [45] ++ inT 6 u)) ∧ Below w.heap.size w w' := by
  have k0 : (0 : Int) ≤ (i : Int) := by omega
  have k1 : (i : Int) < (n : Int) := by omega
  have e1 : IntKind.i64.wrap ((i : Int) + 1) = (i : Int) + 1 := by rw [IntKind.wrap_i64]; omega
  have BN := hideR (fun W => binds_any 3 (by omega) W)
  have z0 := inT_size 6 u
  generalize inT 6 u = r at *
  have z1 : ¬ (9223372036854775807 < 1 + r.size) := by omega
  clear z0 hz hn
  go_enter Tryd.func65, Tryd.ntmps65
  go_wp2_with fail
  refine (BN.out _).mono ?_
  rintro e w1 ⟨rfl, hb⟩
  have B1 := hideR hb
  clear hb BN
  rw [show (((opR 3).2.2.2.2 : Nat) : Int) = 6 from rfl]
  go_wp2_with fail
  refine (PA.out _ B1.out).mono ?_
  rintro e w2 ⟨rfl, hb⟩
  have B2 := hideR (beyond B1.out hb)
  clear hb PA B1
  go_wp2_with fail
  exact bodyPost_ret (v := .string (str [45] ++ r)) (by simp [results, Tryd.results65, go_sem]) rfl ⟨rfl, B2.out⟩
set_option maxRecDepth 100000 in
theorem text12 (bk off cap i n : Nat) (vv : Value) (s : ByteArray) (hi : i < n) (hn : n ≤ 64) (w : World) (x0 : w.cell? ⟨bk, off + i * 2, none⟩ = some (.int .u8 12)) (hz : s.size ≤ 9007199254741504)
    (TX : Hid (∀ W, Below w.heap.size w W → Calls Tryd.prog 65 #[.slice (some ⟨bk, off, none⟩) n cap, .int .i64 ((i : Int) + 1), vv] W fun e w' => e = .returned (.string s) ∧ Below W.heap.size W w')) :
    Calls Tryd.prog 65 #[.slice (some ⟨bk, off, none⟩) n cap, .int .i64 (i : Int), vv] w fun e w' => e = .returned (.string (str [33] ++ brT s)) ∧ Below w.heap.size w w' := by
  have k0 : (0 : Int) ≤ (i : Int) := by omega
  have k1 : (i : Int) < (n : Int) := by omega
  have e1 : IntKind.i64.wrap ((i : Int) + 1) = (i : Int) + 1 := by rw [IntKind.wrap_i64]; omega
  have z1 : ¬ (9223372036854775807 < 2 + s.size) := by omega
  have z2 : ¬ (9223372036854775807 < 2 + s.size + 1) := by omega
  have EQ : Hid (str [33] ++ brT s = str [33, 40] ++ s ++ str [41]) := by
    show _ = _
    unfold brT
    rw [← cat_assoc, ← cat_assoc, str_app]
    rfl
  clear hz hn
  go_enter Tryd.func65, Tryd.ntmps65
  go_wp2_with fail
  refine (TX.out _ (Below.refl _ _)).mono ?_
  rintro e w1 ⟨rfl, hb⟩
  have B1 := hideR hb
  clear hb TX
  go_wp2_with fail
  exact bodyPost_ret (v := .string (str [33, 40] ++ s ++ str [41])) (by simp [results, Tryd.results65, go_sem]) rfl ⟨by rw [EQ.out], B1.out⟩
set_option maxRecDepth 100000 in
set_option maxHeartbeats 1000000 in
theorem textB (bk off cap i n o : Nat) (vv : Value) (u u2 : Txt) (en : Nat) (hi : i < n) (hn : n ≤ 64) (w : World) (x0 : w.cell? ⟨bk, off + i * 2, none⟩ = some (.int .u8 (o : Int))) (h2 : pt (o, 0) = 2) (ho : 1 ≤ o ∧ o ≤ 14) (hz : u.1.size ≤ 9007199254741504) (hz2 : u2.1.size ≤ 9007199254741504) (hc : (opR o).2.2.2.2 = 3 → 4 ≤ u.2)
    (PA : Hid (∀ W (b : Nat), Below w.heap.size w W → Calls Tryd.prog 81 #[.slice (some ⟨bk, off, none⟩) n cap, .int .i64 ((i : Int) + 1), .int .i64 (b : Int), vv] W fun e w' => e = .returned (.string (inT b u)) ∧ Below W.heap.size W w'))
    (EN : Hid (∀ W, Below w.heap.size w W → Calls Tryd.prog 12 #[.slice (some ⟨bk, off, none⟩) n cap, .int .i64 ((i : Int) + 1)] W fun e w' => e = .returned (.int .i64 (en : Int)) ∧ Below W.heap.size W w'))
    (PB : Hid (∀ W (b : Nat), Below w.heap.size w W → Calls Tryd.prog 81 #[.slice (some ⟨bk, off, none⟩) n cap, .int .i64 (en : Int), .int .i64 (b : Int), vv] W fun e w' => e = .returned (.string (inT b u2)) ∧ Below W.heap.size W w')) :
    Calls Tryd.prog 65 #[.slice (some ⟨bk, off, none⟩) n cap, .int .i64 (i : Int), vv] w fun e w' => e = .returned (.string (inT (opR o).2.2.2.2 u ++ str (opR o).2.2.2.1 ++ inT ((opR o).2.2.2.2 + 1) u2)) ∧ Below w.heap.size w w' := by
  have k0 : (0 : Int) ≤ (i : Int) := by omega
  have k1 : (i : Int) < (n : Int) := by omega
  have e1 : IntKind.i64.wrap ((i : Int) + 1) = (i : Int) + 1 := by rw [IntKind.wrap_i64]; omega
  have BN := hideR (fun W => binds_any o ho W)
  have SG := hideR (fun W => sign_any o h2 W)
  have b7 : (opR o).2.2.2.2 ≤ 7 := (op_sign o).2
  have hne : ∀ c : Nat, (opR c).1 ≠ 2 → ¬ o = c := fun c hq e => hq (e ▸ h2)
  have i1 : ((o : Int) == 1) = false := by have := hne 1 (by decide); simp; omega
  have i2 : ((o : Int) == 2) = false := by have := hne 2 (by decide); simp; omega
  have i7 : ((o : Int) == 7) = false := by have := hne 7 (by decide); simp; omega
  have i3 : ((o : Int) == 3) = false := by have := hne 3 (by decide); simp; omega
  have i12 : ((o : Int) == 12) = false := by have := hne 12 (by decide); simp; omega
  obtain ⟨lf, hlf, hin⟩ : ∃ lf : Nat, lf = (if (opR o).2.2.2.2 = 3 then 4 else (opR o).2.2.2.2) ∧ inT lf u = inT (opR o).2.2.2.2 u := by
    refine ⟨_, rfl, ?_⟩
    split
    · rename_i h3
      have := hc h3
      unfold inT
      rw [h3, if_neg (by omega), if_neg (by omega)]
    · rfl
  have P1 := hideR (fun W hb => PA.out W lf hb)
  rw [hin] at P1
  have P2 := hideR (fun W hb => PB.out W ((opR o).2.2.2.2 + 1) hb)
  have EQ : Hid (inT (opR o).2.2.2.2 u ++ str (opR o).2.2.2.1 ++ inT ((opR o).2.2.2.2 + 1) u2 = inT (opR o).2.2.2.2 u ++ str [32] ++ str (sgn o) ++ str [32] ++ inT ((opR o).2.2.2.2 + 1) u2) := by
    show _ = _
    rw [← sgn_blanks o h2, ← str_app, ← str_app, cat_assoc (str [32]) (str (sgn o)) (str [32])]
    simp only [cat_assoc]
  have sz : (str (sgn o)).size ≤ 4 := by
    rw [str_size]
    unfold sgn
    have := (op_sign o).1
    simp
    omega
  have z0 := inT_size (opR o).2.2.2.2 u
  have z9 := inT_size ((opR o).2.2.2.2 + 1) u2
  rw [show (((opR o).2.2.2.2 + 1 : Nat) : Int) = ((opR o).2.2.2.2 : Int) + 1 from rfl] at P2
  generalize hr1 : inT (opR o).2.2.2.2 u = r1 at *
  generalize hr2 : inT ((opR o).2.2.2.2 + 1) u2 = r2 at *
  clear hr1 hr2
  generalize str (opR o).2.2.2.1 = ss at *
  generalize str (sgn o) = sg at *
  generalize (opR o).2.2.2.2 = bd at *
  have z1 : ¬ (9223372036854775807 < r1.size + 1) := by omega
  have z2 : ¬ (9223372036854775807 < r1.size + 1 + sg.size) := by omega
  have z3 : ¬ (9223372036854775807 < r1.size + 1 + sg.size + 1) := by omega
  have z4 : ¬ (9223372036854775807 < r1.size + 1 + sg.size + 1 + r2.size) := by omega
  have e2 : IntKind.i64.wrap ((bd : Int) + 1) = (bd : Int) + 1 := by rw [IntKind.wrap_i64]; omega
  clear PA PB z0 z9 hz hz2 hc hin hne h2 sz hn
  go_enter Tryd.func65, Tryd.ntmps65
  go_wp2_with fail
  refine (BN.out _).mono ?_
  rintro e w1 ⟨rfl, hb⟩
  have B1 := hideR hb
  clear hb
  by_cases c3 : bd = 3
  · subst c3
    rw [if_pos rfl] at hlf
    subst hlf
    go_wp2_with fail
    refine (P1.out _ B1.out).mono ?_
    rintro e w2 ⟨rfl, hb⟩
    have B2 := hideR (beyond B1.out hb)
    clear hb P1 B1
    go_wp2_with fail
    refine (SG.out _).mono ?_
    rintro e w3 ⟨rfl, hb⟩
    have B3 := hideR (beyond B2.out hb)
    clear hb SG B2
    go_wp2_with fail
    refine (EN.out _ B3.out).mono ?_
    rintro e w4 ⟨rfl, hb⟩
    have B4 := hideR (beyond B3.out hb)
    clear hb EN B3
    go_wp2_with fail
    refine (BN.out _).mono ?_
    rintro e w5 ⟨rfl, hb⟩
    have B5 := hideR (beyond B4.out hb)
    clear hb BN B4
    go_wp2_with fail
    refine (P2.out _ B5.out).mono ?_
    rintro e w6 ⟨rfl, hb⟩
    have B6 := hideR (beyond B5.out hb)
    clear hb P2 B5
    go_wp2_with fail
    exact bodyPost_ret (v := .string (r1 ++ str [32] ++ sg ++ str [32] ++ r2)) (by simp [results, Tryd.results65, go_sem]) rfl ⟨by rw [EQ.out], B6.out⟩
  · rw [if_neg c3] at hlf
    subst hlf
    have c4 : ((lf : Int) == 3) = false := by simp; omega
    go_wp2_with fail
    refine (P1.out _ B1.out).mono ?_
    rintro e w2 ⟨rfl, hb⟩
    have B2 := hideR (beyond B1.out hb)
    clear hb P1 B1
    go_wp2_with fail
    refine (SG.out _).mono ?_
    rintro e w3 ⟨rfl, hb⟩
    have B3 := hideR (beyond B2.out hb)
    clear hb SG B2
    go_wp2_with fail
    refine (EN.out _ B3.out).mono ?_
    rintro e w4 ⟨rfl, hb⟩
    have B4 := hideR (beyond B3.out hb)
    clear hb EN B3
    go_wp2_with fail
    refine (BN.out _).mono ?_
    rintro e w5 ⟨rfl, hb⟩
    have B5 := hideR (beyond B4.out hb)
    clear hb BN B4
    go_wp2_with fail
    refine (P2.out _ B5.out).mono ?_
    rintro e w6 ⟨rfl, hb⟩
    have B6 := hideR (beyond B5.out hb)
    clear hb P2 B5
    go_wp2_with fail
    exact bodyPost_ret (v := .string (r1 ++ str [32] ++ sg ++ str [32] ++ r2)) (by simp [results, Tryd.results65, go_sem]) rfl ⟨by rw [EQ.out], B6.out⟩
end Go.Proofs.YtmnhbokiibaopaaDoor
