/-
  The contract of inside of the statements of dbm: the least valuation on the grid.
-/
import Derived.Test.YtmnckhchpbdfjaaHb
namespace Go.Proofs.Ytmnckhchpbdfjaa
open Go.RowKit Go.Shelf
set_option linter.unusedVariables false
set_option maxRecDepth 100000
def curV (n : Nat) (p : Mat) (g : Int) (R I J : Nat) : Val := gRow p g I J (gAll n p g I (gRounds n p g R (fun _ => 0)))
theorem cur_row (n : Nat) (p : Mat) (g : Int) (R I : Nat) : curV n p g R I (n + 1) = curV n p g R (I + 1) 0 := rfl
theorem cur_round (n : Nat) (p : Mat) (g : Int) (R : Nat) : curV n p g R (n + 1) 0 = curV n p g (R + 1) 0 0 := rfl
theorem cur_next (n : Nat) (p : Mat) (g : Int) (R I J : Nat) : curV n p g R I (J + 1) = gStep p g I J (curV n p g R I J) := rfl
theorem cur_upper {n : Nat} {p : Mat} {g : Int} (h : Closed n p) (hg : g = n + 1) (R I J : Nat) (hI : I ≤ n) (hJ : J ≤ n + 1) : Upper n p g (curV n p g R I J) :=
  upper_row h hg hI (upper_all h hg (upper_rounds h hg (upper_start h hg) R) I (by omega)) J hJ
theorem cur_nonneg (n : Nat) (p : Mat) (g : Int) (R I J a : Nat) : 0 ≤ curV n p g R I J a :=
  Int.le_trans (Int.le_trans (rounds_nonneg n p g R a) (gAll_le n p g I _ a)) (gRow_le p g I J _ a)
theorem mul_bd {V g : Int} (v0 : -268435456 ≤ V) (v1 : V ≤ 268435456) (g0 : 1 ≤ g) (g1 : g ≤ 9) : -2415919104 ≤ V * g ∧ V * g ≤ 2415919104 := by
  have a : V * g ≤ 268435456 * g := Int.mul_le_mul_of_nonneg_right v1 (by omega)
  have b : -268435456 * g ≤ V * g := Int.mul_le_mul_of_nonneg_right v0 (by omega)
  omega
theorem cur_bd {n : Nat} {p : Mat} {g : Int} (hn : n ≤ 8) (h : Closed n p) (hg : g = n + 1) (hk : ∀ j, j ≤ n → -536870912 ≤ p 0 j) {v : Val} (u : Upper n p g v) (a : Nat) (ha : a ≤ n) : v a ≤ 4294967296 := by
  obtain ⟨q, c, le⟩ := u a ha
  have ql := chain_le h q a ha c
  have := hk a ha
  have := low_nonneg h a ha
  have b := mul_bd (V := lowL p a) (g := g) (by omega) (by unfold lowL; omega) (by omega) (by omega)
  omega
theorem cell_opn {b : Int} (h : b = opn) : narB b = 2147483647 ∧ finB 2147483647 = false := ⟨by unfold narB; rw [if_pos h], by decide⟩
theorem cell_fin {b : Int} (h : ¬ b = opn) (ok : narOk b = true) : narB b = b ∧ finB b = true ∧ valV b = b / 2 ∧ (valR b = decide (b % 2 = 1)) ∧ -536870912 ≤ b ∧ b ≤ 536870913 := by
  have h' : ¬ (b < -536870912 ∨ 536870913 < b) := by unfold narOk at ok; simpa [h] using ok
  have hf : finB b = true := by unfold finB; simp; omega
  exact ⟨by unfold narB; rw [if_neg h, if_neg h'], hf, by simp [valV, hf], by simp [valR, hf], by omega, by omega⟩
set_option maxHeartbeats 8000000 in
theorem inside_any (n m cb off cap : Nat) (l : List Int) (p : Mat) (w : World) (hn : n ≤ 8) (hm : m = (n + 1) * (n + 1)) (hl : l.length = m) (hR : RowAt w cb off l) (hcb : cb < w.heap.size) (hC : Closed n p) (hv : ∀ i j, i ≤ n → j ≤ n → l.getD (i * (n + 1) + j) 0 = narB (p i j) ∧ narOk (p i j) = true) :
    Calls Try.prog 13 #[.int .i64 n, .slice (some ⟨cb, off, none⟩) m cap] w fun e w' => (∃ g cap, e = .returned (.slice (some ⟨g, 0, none⟩) (n + 1 : Nat) cap) ∧ w.heap.size ≤ g ∧ ValAt w' g n (gRounds n p ((n : Int) + 1) (n + 2) (fun _ => 0))) ∧ Below w.heap.size w w' := by
  have m81 : m ≤ 81 := by rw [hm]; exact Nat.mul_le_mul (show n + 1 ≤ 9 by omega) (show n + 1 ≤ 9 by omega)
  have LT : Hid (∀ i j, i ≤ n → j ≤ n → i * (n + 1) + j < m) := fun i j hi hj => by rw [hm]; exact pos_lt hi hj
  have HC : Hid (∀ wr, Below w.heap.size w wr → ∀ k, k < m → wr.cell? ⟨cb, off + k, none⟩ = some (.int .i32 (l.getD k 0))) := fun wr hb k hk => (hb.cell (p := ⟨cb, off + k, none⟩) hcb).trans (hR k (by omega))
  have HV := hideD hv
  have k0 : ∀ j, j ≤ n → -536870912 ≤ p 0 j := fun j hj => (cell_fin (low_fin hC j hj) (hv 0 j (by omega) hj).2).2.2.2.2.1
  have BD : Hid (∀ R I J, I ≤ n → J ≤ n + 1 → ∀ a, a ≤ n → 0 ≤ curV n p ((n : Int) + 1) R I J a ∧ curV n p ((n : Int) + 1) R I J a ≤ 4294967296) := fun R I J hI hJ a ha => ⟨cur_nonneg _ _ _ _ _ _ _, cur_bd hn hC rfl k0 (cur_upper hC rfl R I J hI hJ) a ha⟩
  have CN : Hid (∀ R I J, curV n p ((n : Int) + 1) R I (J + 1) = gStep p ((n : Int) + 1) I J (curV n p ((n : Int) + 1) R I J)) := fun R I J => rfl
  have CR : Hid (∀ R I, curV n p ((n : Int) + 1) R I (n + 1) = curV n p ((n : Int) + 1) R (I + 1) 0) := fun R I => rfl
  have CQ : Hid (∀ R, curV n p ((n : Int) + 1) R (n + 1) 0 = curV n p ((n : Int) + 1) (R + 1) 0 0) := fun R => rfl
  have CE : Hid (curV n p ((n : Int) + 1) (n + 2) 0 0 = gRounds n p ((n : Int) + 1) (n + 2) (fun _ => 0)) := rfl
  have CS : Hid (∀ a, curV n p ((n : Int) + 1) 0 0 0 a = 0) := fun a => rfl
  have hmk := run_make_row' (P := Try.prog) 35 2 (.int .i64 0) 8 Try.underlying35 info_i64 rfl .i64 .i64 (n + 1) (by omega) (by omega)
  clear hm hl hR hv hC k0
  have m1 : (m : Int) ≤ 81 := by omega
  have e0 : ((n + 1 : Nat) : Int) = (n : Int) + 1 := by omega
  rw [e0] at hmk
  clear e0
  go_enter Try.func13, Try.ntmps13
  go_wp2_with fail
  have Z0 : Hid (∀ a, a ≤ n → (w.alloc (.cells (madeCells #[.int .i64 0] (n + 1)) 2)).cell? ⟨w.heap.size, a, none⟩ = some (.int .i64 (curV n p ((n : Int) + 1) 0 0 0 a))) := fun a ha => by
    have ha' : a < n + 1 := by omega
    rw [CS.out, World.cell?_alloc_at _ _ _ _ rfl]
    simp [madeCells, ha', Nat.mod_one]
  have F0 : Hid (∀ a, (w.alloc (.cells (madeCells #[.int .i64 0] (n + 1)) 2)).frozen? ⟨w.heap.size, a, none⟩ = false) := fun a => by simp [go_sem]
  have B0 := hideD (below_one w (.cells (madeCells #[.int .i64 0] (n + 1)) 2))
  generalize w.alloc (.cells (madeCells #[.int .i64 0] (n + 1)) 2) = W at *
  generalize hG : w.heap.size = G at *
  have HG := hideD hG
  clear hmk hG
  generalize curV n p ((n : Int) + 1) = cur at *
  go_loopw [7] (fun s wr => ∃ (R : Nat), R ≤ n + 2 ∧ s = .int .i64 R ∧ Hid (∀ a, a ≤ n → wr.cell? ⟨G, a, none⟩ = some (.int .i64 (cur R 0 0 a))) ∧ Hid (∀ a, wr.frozen? ⟨G, a, none⟩ = false) ∧ Hid (Below G w wr)) (fun s _ => n + 2 - (intOf s).toNat)
  case atStart => exact ⟨0, by omega, rfl, Z0, F0, B0⟩
  case round =>
    obtain ⟨R, hRR, rfl, Z, Fz, B⟩ := hrel
    clear Z0 F0 B0
    by_cases cr : R ≤ n + 1
    · have r1 : (R : Int) ≤ (n : Int) + 1 := by omega
      go_wp2_with fail
      go_loopw [8] (fun s wr => ∃ (I : Nat), I ≤ n + 1 ∧ s = .int .i64 I ∧ Hid (∀ a, a ≤ n → wr.cell? ⟨G, a, none⟩ = some (.int .i64 (cur R I 0 a))) ∧ Hid (∀ a, wr.frozen? ⟨G, a, none⟩ = false) ∧ Hid (Below G w wr)) (fun s _ => n + 1 - (intOf s).toNat)
      case atStart => exact ⟨0, by omega, rfl, Z, Fz, B⟩
      case round =>
        obtain ⟨I, hI, rfl, Z, Fz, B⟩ := hrel
        by_cases ci : I ≤ n
        · go_wp2_with fail
          go_loopw [9] (fun s wr => ∃ (J : Nat), J ≤ n + 1 ∧ s = .int .i64 J ∧ Hid (∀ a, a ≤ n → wr.cell? ⟨G, a, none⟩ = some (.int .i64 (cur R I J a))) ∧ Hid (∀ a, wr.frozen? ⟨G, a, none⟩ = false) ∧ Hid (Below G w wr)) (fun s _ => n + 1 - (intOf s).toNat)
          case atStart => exact ⟨0, by omega, rfl, Z, Fz, B⟩
          case round =>
            obtain ⟨J, hJ, rfl, Z, Fz, B⟩ := hrel
            by_cases cj : J ≤ n
            · have lt := LT.out I J ci cj
              have a1 := HC.out wr B.out _ lt
              obtain ⟨ev, ok⟩ := HV.out I J ci cj
              rw [ev] at a1
              clear ev
              have z1 := Z.out I ci
              have z2 := Z.out J cj
              have f1 := Fz.out J
              obtain ⟨bi0, bi1⟩ := BD.out R I J ci hJ I ci
              obtain ⟨bj0, bj1⟩ := BD.out R I J ci hJ J cj
              have CNX := hideD (CN.out R I J)
              have e0 : IntKind.i64.wrap ((n : Int) + 1) = (n : Int) + 1 := by rw [IntKind.wrap_i64]; omega
              have e1 : IntKind.i64.wrap ((I : Int) * ((n : Int) + 1)) = ((I * (n + 1) : Nat) : Int) := by
                have : (I : Int) * ((n : Int) + 1) = ((I * (n + 1) : Nat) : Int) := by simp
                rw [this, IntKind.wrap_i64]
                generalize I * (n + 1) = z at *
                omega
              generalize I * (n + 1) = A at *
              have e2 : IntKind.i64.wrap ((A : Int) + (J : Int)) = (A : Int) + (J : Int) := by rw [IntKind.wrap_i64]; omega
              have e8 : (0 : Int) ≤ (A : Int) + (J : Int) := by omega
              have e9 : ((A : Int) + (J : Int)).toNat = A + J := by omega
              have e5 : (A : Int) + (J : Int) < (m : Int) := by omega
              have e6 : (I : Int) < (n : Int) + 1 := by omega
              have e7 : (J : Int) < (n : Int) + 1 := by omega
              have e10 : (0 : Int) ≤ (I : Int) := by omega
              have e11 : (0 : Int) ≤ (J : Int) := by omega
              by_cases fo : p I J = opn
              · obtain ⟨nb, nf⟩ := cell_opn fo
                rw [nb] at a1
                have VA : Hid (∀ w, Calls Try.prog 34 #[.int .i32 2147483647] w fun e w' => e = .returned (.tuple #[.int .i64 (valV 2147483647), .bool (valR 2147483647), .bool false]) ∧ w' = w) := fun w => by
                  have := rvalue_any 2147483647 w (by decide) (by decide)
                  rw [nf] at this
                  exact this
                have ZN : Hid (∀ a, a ≤ n → wr.cell? ⟨G, a, none⟩ = some (.int .i64 (cur R I (J + 1) a))) := fun a ha => by
                  rw [CNX.out]
                  unfold gStep
                  rw [if_pos fo]
                  exact Z.out a ha
                clear nb nf fo ok CNX
                go_wp2_with fail
                refine (VA.out _).mono ?_
                rintro e' w3 ⟨rfl, rfl⟩
                go_wp2_with fail
                go_roundw
                case rel => exact ⟨J + 1, by omega, by go_num, ZN, Fz, B⟩
                case measure => simp [intOf]; omega
              · obtain ⟨nb, nf, nv, nr, x0, x1⟩ := cell_fin fo ok
                rw [nb] at a1
                have VA : Hid (∀ w, Calls Try.prog 34 #[.int .i32 (p I J)] w fun e w' => e = .returned (.tuple #[.int .i64 (p I J / 2), .bool (decide (p I J % 2 = 1)), .bool true]) ∧ w' = w) := fun w => by
                  have := rvalue_any (p I J) w (by omega) (by omega)
                  rw [nf, nv, nr] at this
                  exact this
                have ST : Hid (cur R I (J + 1) = if cur R I J J < cur R I J I - (p I J / 2 * ((n : Int) + 1) - (if p I J % 2 = 1 then 0 else 1)) then updV (cur R I J) J (cur R I J I - (p I J / 2 * ((n : Int) + 1) - (if p I J % 2 = 1 then 0 else 1))) else cur R I J) := by
                  show _ = _
                  rw [CNX.out]
                  unfold gStep gW
                  rw [if_neg fo]
                have mb := mul_bd (V := p I J / 2) (g := (n : Int) + 1) (by omega) (by omega) (by omega) (by omega)
                clear nb nf nv nr fo ok CNX
                generalize p I J = x at *
                have ew : IntKind.i64.wrap (x / 2 * ((n : Int) + 1)) = x / 2 * ((n : Int) + 1) := by rw [IntKind.wrap_i64]; omega
                have ew' : wrap64 (x / 2 * ((n : Int) + 1)) = x / 2 * ((n : Int) + 1) := by unfold wrap64; omega
                generalize hzz : x / 2 * ((n : Int) + 1) = z at *
                have EW : Hid (wrap64 (x / 2 * ((n : Int) + 1)) = z) := by
                  show wrap64 (x / 2 * ((n : Int) + 1)) = z
                  rw [hzz]
                  exact ew'
                clear hzz ew ew'
                obtain ⟨mb0, mb1⟩ := mb
                generalize cur R I J I = y at *
                generalize cur R I J J = t at *
                by_cases od : x % 2 = 1
                · rw [if_pos od] at ST
                  rw [show z - 0 = z by omega] at ST
                  rw [decide_eq_true od] at VA
                  have es : IntKind.i64.wrap (y - z) = y - z := by rw [IntKind.wrap_i64]; omega
                  have es' : wrap64 (y - z) = y - z := by unfold wrap64; omega
                  clear od
                  by_cases lt2 : t < y - z
                  · rw [if_pos lt2] at ST
                    have ZN : Hid (∀ k a, a ≤ n → ((wr.drewN k).setCell ⟨G, J, none⟩ (.int .i64 (y - z))).cell? ⟨G, a, none⟩ = some (.int .i64 (cur R I (J + 1) a))) := fun k a ha => by
                      rw [ST.out]
                      unfold updV
                      by_cases qa : a = J
                      · subst qa
                        rw [World.cell?_setCell_same _ _ _ (show (wr.drewN k).cell? ⟨G, a, none⟩ = _ from Z.out a ha), if_pos rfl]
                      · rw [World.cell?_setCell_other _ _ _ _ (by intro e; injection e; omega), if_neg qa]
                        exact Z.out a ha
                    have FN : Hid (∀ k a, ((wr.drewN k).setCell ⟨G, J, none⟩ (.int .i64 (y - z))).frozen? ⟨G, a, none⟩ = false) := fun k a => by
                      rw [World.frozen?_setCell]
                      exact Fz.out a
                    have BN : Hid (∀ k, Below G w ((wr.drewN k).setCell ⟨G, J, none⟩ (.int .i64 (y - z)))) := fun k => Below.setCell (p := ⟨G, J, none⟩) (below_drewN B.out k) (Nat.le_refl _) _
                    go_wp2_with fail
                    refine (VA.out _).mono ?_
                    rintro e' w3 ⟨rfl, rfl⟩
                    go_wp2_with fail
                    simp only [EW.out]
                    go_quiet (fail)
                    try simp only [EW.out, es']
                    go_wp2_with fail
                    try simp only [EW.out, es']
                    go_roundw
                    case rel => exact ⟨J + 1, by omega, by go_num, ZN.out _, FN.out _, BN.out _⟩
                    case measure => simp [intOf]; omega
                  · rw [if_neg lt2] at ST
                    have ZN : Hid (∀ a, a ≤ n → wr.cell? ⟨G, a, none⟩ = some (.int .i64 (cur R I (J + 1) a))) := fun a ha => by
                      rw [ST.out]
                      exact Z.out a ha
                    go_wp2_with fail
                    refine (VA.out _).mono ?_
                    rintro e' w3 ⟨rfl, rfl⟩
                    go_wp2_with fail
                    simp only [EW.out]
                    go_quiet (fail)
                    try simp only [EW.out, es']
                    go_wp2_with fail
                    try simp only [EW.out, es']
                    go_roundw
                    case rel => exact ⟨J + 1, by omega, by go_num, ZN, Fz, below_drewN B.out _⟩
                    case measure => simp [intOf]; omega
                · rw [if_neg od] at ST
                  rw [decide_eq_false od] at VA
                  have es : IntKind.i64.wrap (z - 1) = z - 1 := by rw [IntKind.wrap_i64]; omega
                  have es' : wrap64 (z - 1) = z - 1 := by unfold wrap64; omega
                  have et' : wrap64 (y - (z - 1)) = y - (z - 1) := by unfold wrap64; omega
                  have et : IntKind.i64.wrap (y - (z - 1)) = y - (z - 1) := by rw [IntKind.wrap_i64]; omega
                  clear od
                  by_cases lt2 : t < y - (z - 1)
                  · rw [if_pos lt2] at ST
                    have ZN : Hid (∀ k a, a ≤ n → ((wr.drewN k).setCell ⟨G, J, none⟩ (.int .i64 (y - (z - 1)))).cell? ⟨G, a, none⟩ = some (.int .i64 (cur R I (J + 1) a))) := fun k a ha => by
                      rw [ST.out]
                      unfold updV
                      by_cases qa : a = J
                      · subst qa
                        rw [World.cell?_setCell_same _ _ _ (show (wr.drewN k).cell? ⟨G, a, none⟩ = _ from Z.out a ha), if_pos rfl]
                      · rw [World.cell?_setCell_other _ _ _ _ (by intro e; injection e; omega), if_neg qa]
                        exact Z.out a ha
                    have FN : Hid (∀ k a, ((wr.drewN k).setCell ⟨G, J, none⟩ (.int .i64 (y - (z - 1)))).frozen? ⟨G, a, none⟩ = false) := fun k a => by
                      rw [World.frozen?_setCell]
                      exact Fz.out a
                    have BN : Hid (∀ k, Below G w ((wr.drewN k).setCell ⟨G, J, none⟩ (.int .i64 (y - (z - 1))))) := fun k => Below.setCell (p := ⟨G, J, none⟩) (below_drewN B.out k) (Nat.le_refl _) _
                    go_wp2_with fail
                    refine (VA.out _).mono ?_
                    rintro e' w3 ⟨rfl, rfl⟩
                    go_wp2_with fail
                    simp only [EW.out, es']
                    go_quiet (fail)
                    try simp only [EW.out, es', et']
                    go_wp2_with fail
                    try simp only [EW.out, es', et']
                    go_roundw
                    case rel => exact ⟨J + 1, by omega, by go_num, ZN.out _, FN.out _, BN.out _⟩
                    case measure => simp [intOf]; omega
                  · rw [if_neg lt2] at ST
                    have ZN : Hid (∀ a, a ≤ n → wr.cell? ⟨G, a, none⟩ = some (.int .i64 (cur R I (J + 1) a))) := fun a ha => by
                      rw [ST.out]
                      exact Z.out a ha
                    go_wp2_with fail
                    refine (VA.out _).mono ?_
                    rintro e' w3 ⟨rfl, rfl⟩
                    go_wp2_with fail
                    simp only [EW.out, es']
                    go_quiet (fail)
                    try simp only [EW.out, es', et']
                    go_wp2_with fail
                    try simp only [EW.out, es', et']
                    go_roundw
                    case rel => exact ⟨J + 1, by omega, by go_num, ZN, Fz, below_drewN B.out _⟩
                    case measure => simp [intOf]; omega
            · have ZN : Hid (∀ a, a ≤ n → wr.cell? ⟨G, a, none⟩ = some (.int .i64 (cur R (I + 1) 0 a))) := by
                obtain rfl : J = n + 1 := by omega
                intro a ha
                rw [← CR.out]
                exact Z.out a ha
              go_wp2_with fail
              go_roundw
              case rel => exact ⟨I + 1, by omega, by go_num, ZN, Fz, B⟩
              case measure => simp [intOf]; omega
        · have ZN : Hid (∀ a, a ≤ n → wr.cell? ⟨G, a, none⟩ = some (.int .i64 (cur (R + 1) 0 0 a))) := by
            obtain rfl : I = n + 1 := by omega
            intro a ha
            rw [← CQ.out]
            exact Z.out a ha
          go_wp2_with fail
          go_roundw
          case rel => exact ⟨R + 1, by omega, by go_num, ZN, Fz, B⟩
          case measure => simp [intOf]; omega
    · have ZN : Hid (∀ a, a ≤ n → wr.cell? ⟨G, a, none⟩ = some (.int .i64 (gRounds n p ((n : Int) + 1) (n + 2) (fun _ => 0) a))) := by
        obtain rfl : R = n + 2 := by omega
        intro a ha
        rw [← CE.out]
        exact Z.out a ha
      have r1 : ¬ ((R : Int) ≤ (n : Int) + 1) := by omega
      go_wp2_with fail
      go_ret
      exact ⟨⟨G, ⟨n + 1, rfl⟩, Nat.le_of_eq HG.out, ZN.out⟩, by rw [HG.out]; exact B.out⟩
end Go.Proofs.Ytmnckhchpbdfjaa
