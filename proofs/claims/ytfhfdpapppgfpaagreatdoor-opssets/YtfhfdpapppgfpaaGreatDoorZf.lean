/-
  The document's cells of ops: at, put, less, plus.
-/
import Derived.Test.YtfhfdpapppgfpaaGreatDoorZb
import Derived.Test.YtfhfdpapppgfpaaGreatDoorZe
import Derived.Test.YtfhfdpapppgfpaaGreatDoorZd
import Derived.Maps.AppendAt
import Derived.Test.YtfhfdpapppgfpaaGreatDoorZc
namespace Go.Proofs.YtfhfdpapppgfpaaGreatDoor
open Go.RowKit
set_option linter.unusedVariables false
set_option maxRecDepth 100000
/-- In block d there lie the document's cells of n clocks, whose row is in block g. -/
def RC (w : World) (d g n m : Nat) (r : Mat) : Prop := ∃ cap, w.cell? ⟨d, 0, none⟩ = some (.int .i64 (n : Int)) ∧ w.cell? ⟨d, 1, none⟩ = some (.slice (some ⟨g, 0, none⟩) m cap) ∧ d ≠ g ∧ MatAt w g n r
theorem RC.lt {w : World} {d g n m : Nat} {r : Mat} (h : RC w d g n m r) : d < w.heap.size ∧ g < w.heap.size := by
  obtain ⟨cap, h0, h1, h2, h3⟩ := h
  exact ⟨World.block_lt_of_cell? _ _ h0, h3.lt⟩
theorem RC.past {w w' : World} {d g n m : Nat} {r : Mat} (h : RC w d g n m r) (hb : Below w.heap.size w w') : RC w' d g n m r := by
  have hl := h.lt
  obtain ⟨cap, h0, h1, h2, h3⟩ := h
  exact ⟨cap, kc _ _ hb h0, kc _ _ hb h1, h2, h3.later hb hl.2⟩
theorem RC.drewN {w : World} {d g n m : Nat} {r : Mat} (h : RC w d g n m r) (k : Nat) : RC (w.drewN k) d g n m r := by
  obtain ⟨cap, h0, h1, h2, h3⟩ := h
  exact ⟨cap, h0, h1, h2, h3.drewN k⟩
theorem RC.drew {w : World} {d g n m : Nat} {r : Mat} (h : RC w d g n m r) : RC w.drew d g n m r := h.drewN 1
theorem RC.set {w : World} {d g n m : Nat} {r : Mat} (h : RC w d g n m r) {i j : Nat} (hi : i ≤ n) (hj : j ≤ n) (v : Int) : RC (w.setCell ⟨g, i * (n + 1) + j, none⟩ (.int .i64 v)) d g n m (upd r i j v) := by
  obtain ⟨cap, h0, h1, h2, h3⟩ := h
  refine ⟨cap, ?_, ?_, h2, h3.set hi hj v⟩
  · rw [World.cell?_setCell_other _ _ _ _ (by intro e; injection e; omega)]; exact h0
  · rw [World.cell?_setCell_other _ _ _ _ (by intro e; injection e; omega)]; exact h1
theorem mul_wrap (i n : Nat) (hi : i ≤ 8) (hn : n ≤ 8) : IntKind.i64.wrap ((i : Int) * ((n : Int) + 1)) = ((i * (n + 1) : Nat) : Int) := by
  have : (i : Int) * ((n : Int) + 1) = ((i * (n + 1) : Nat) : Int) := by simp
  rw [this, IntKind.wrap_i64]
  have : i * (n + 1) ≤ 8 * 9 := Nat.mul_le_mul hi (by omega)
  generalize i * (n + 1) = z at *
  omega
theorem rat_any (d g n m i j : Nat) (r : Mat) (w : World) (hn : n ≤ 8) (hi : i ≤ n) (hj : j ≤ n) (hm : m = (n + 1) * (n + 1)) (h : RC w d g n m r) :
    Calls Tryz.prog 38 #[.pointer (some ⟨d, 0, none⟩), .int .i64 i, .int .i64 j] w fun e w' => e = .returned (.int .i64 (r i j)) ∧ ∃ k, w' = w.drewN k := by
  obtain ⟨cap, h0, h1, -, h3⟩ := h
  have c0 := h3.cell i j hi hj
  have e1 := mul_wrap i n (by omega) hn
  have lt := pos_lt hi hj
  have m81 : (n + 1) * (n + 1) ≤ 81 := Nat.mul_le_mul (show n + 1 ≤ 9 by omega) (show n + 1 ≤ 9 by omega)
  rw [← hm] at lt m81
  clear h3 hm
  generalize r i j = x at *
  generalize i * (n + 1) = a at *
  have a1 : (a : Int) + (j : Int) < (m : Int) := by omega
  have a2 : (0 : Int) ≤ (a : Int) + (j : Int) := by omega
  have a3 : IntKind.i64.wrap ((a : Int) + (j : Int)) = (a : Int) + (j : Int) := by rw [IntKind.wrap_i64]; omega
  have a4 : ((a : Int) + (j : Int)).toNat = a + j := by omega
  have a5 : IntKind.i64.wrap ((n : Int) + 1) = (n : Int) + 1 := by rw [IntKind.wrap_i64]; omega
  go_enter Tryz.func38, Tryz.ntmps38
  go_wp2_with fail
  go_quiet (fail)
  go_wp2_with fail
  go_ret
  exact ⟨rfl, _, rfl⟩
theorem put_any (d g n m i j : Nat) (v : Int) (r : Mat) (w : World) (hn : n ≤ 8) (hi : i ≤ n) (hj : j ≤ n) (hm : m = (n + 1) * (n + 1)) (h : RC w d g n m r) :
    Calls Tryz.prog 36 #[.pointer (some ⟨d, 0, none⟩), .int .i64 i, .int .i64 j, .int .i64 v] w fun e w' => e = .returned (.tuple #[]) ∧ RC w' d g n m (upd r i j v) ∧ Below g w w' ∧ OnlyB g w w' := by
  have HR := hideD ((h.set hi hj v).drew)
  have HB : Hid (Below g w ((w.setCell ⟨g, i * (n + 1) + j, none⟩ (.int .i64 v)).drew)) := ((Below.refl g w).setCell (Nat.le_refl _) _).drew
  have HO : Hid (OnlyB g w ((w.setCell ⟨g, i * (n + 1) + j, none⟩ (.int .i64 v)).drew)) := ((OnlyB.refl g w).set rfl _).drew
  obtain ⟨cap, h0, h1, -, h3⟩ := h
  have c0 := h3.cell i j hi hj
  have c1 := h3.free i j hi hj
  have e1 := mul_wrap i n (by omega) hn
  have lt := pos_lt hi hj
  have m81 : (n + 1) * (n + 1) ≤ 81 := Nat.mul_le_mul (show n + 1 ≤ 9 by omega) (show n + 1 ≤ 9 by omega)
  rw [← hm] at lt m81
  clear h3 hm
  generalize r i j = x at *
  generalize i * (n + 1) = a at *
  have a1 : (a : Int) + (j : Int) < (m : Int) := by omega
  have a2 : (0 : Int) ≤ (a : Int) + (j : Int) := by omega
  have a3 : IntKind.i64.wrap ((a : Int) + (j : Int)) = (a : Int) + (j : Int) := by rw [IntKind.wrap_i64]; omega
  have a4 : ((a : Int) + (j : Int)).toNat = a + j := by omega
  have a5 : IntKind.i64.wrap ((n : Int) + 1) = (n : Int) + 1 := by rw [IntKind.wrap_i64]; omega
  go_enter Tryz.func36, Tryz.ntmps36
  go_big_region
  all_goals
    go_end0
    exact ⟨rfl, HR.out, HB.out, HO.out⟩
def lessM (r : Mat) (i j : Nat) (v : Int) : Mat := if v < r i j then upd r i j v else r
theorem less_any (d g n m i j : Nat) (v : Int) (r : Mat) (w : World) (hn : n ≤ 8) (hi : i ≤ n) (hj : j ≤ n) (hm : m = (n + 1) * (n + 1)) (h : RC w d g n m r) :
    Calls Tryz.prog 44 #[.pointer (some ⟨d, 0, none⟩), .int .i64 i, .int .i64 j, .int .i64 v] w fun e w' => e = .returned (.tuple #[]) ∧ RC w' d g n m (lessM r i j v) ∧ Below g w w' ∧ OnlyB g w w' := by
  have HA := hideD (rat_any d g n m i j r w hn hi hj hm h)
  have HP : Hid (∀ k, _) := fun k => put_any d g n m i j v r (w.drewN k) hn hi hj hm (h.drewN k)
  have HB : Hid (∀ k, Below g w (w.drewN k)) := fun k => below_drewN (Below.refl _ _) k
  have HO : Hid (∀ k, OnlyB g w (w.drewN k)) := fun k => ⟨Nat.le_refl _, fun _ _ _ => rfl⟩
  have HR : Hid (∀ k, RC (w.drewN k) d g n m r) := fun k => h.drewN k
  have HL : Hid (lessM r i j v = if v < r i j then upd r i j v else r) := rfl
  clear h hm
  generalize r i j = x at *
  by_cases c : v < x
  · rw [if_pos c] at HL
    go_enter Tryz.func44, Tryz.ntmps44
    go_wp2_with fail
    refine HA.out.mono ?_
    rintro e w1 ⟨rfl, k, rfl⟩
    go_wp2_with fail
    refine (HP.out k).mono ?_
    rintro e w2 ⟨rfl, hr, hb, ho⟩
    go_wp2_with fail
    go_end0
    exact ⟨rfl, by rw [HL.out]; exact hr, (HB.out k).trans hb, (HO.out k).trans ho⟩
  · rw [if_neg c] at HL
    go_enter Tryz.func44, Tryz.ntmps44
    go_wp2_with fail
    refine HA.out.mono ?_
    rintro e w1 ⟨rfl, k, rfl⟩
    go_wp2_with fail
    go_end0
    exact ⟨rfl, by rw [HL.out]; exact HR.out k, HB.out k, HO.out k⟩
end Go.Proofs.YtfhfdpapppgfpaaGreatDoor

/-
  The document's way of closing (ops): plus, closed.
-/
namespace Go.Proofs.YtfhfdpapppgfpaaGreatDoor
open Go.RowKit
set_option linter.unusedVariables false
set_option maxRecDepth 100000
theorem plus4_any (a b : Int) (w : World) :
    Calls Tryz.prog 72 #[.int .i64 a, .int .i64 b] w fun e w' => e = .returned (.int .i64 (dplus a b)) ∧ w' = w := by
  rw [← rplus_eq]
  by_cases h : a = opn
  · have e : rplus a b = opn := by simp [rplus, h]
    rw [e]
    clear e
    unfold opn at *
    go_enter Tryz.func72, Tryz.ntmps72
    go_wp2
    all_goals go_ret
    all_goals first | exact ⟨rfl, rfl⟩ | (exfalso; omega) | (exfalso; simp_all; done) | (rename_i hh; exfalso; simp at hh; omega)
  · by_cases h1 : b = opn
    · have e : rplus a b = opn := by simp [rplus, h1]
      rw [e]
      clear e
      unfold opn at *
      go_enter Tryz.func72, Tryz.ntmps72
      go_wp2
      all_goals go_ret
      all_goals first | exact ⟨rfl, rfl⟩ | (exfalso; omega) | (exfalso; simp_all; done) | (rename_i hh; exfalso; simp at hh; omega)
    · have e : rplus a b = if ¬ a.tmod 2 = 0 ∨ ¬ b.tmod 2 = 0 then wrap64 (wrap64 (a + b) - 1) else wrap64 (a + b) := by simp [rplus, h, h1]
      rw [e]
      clear e
      unfold opn at *
      have t1 : (a == 4611686018427387904) = false := by simpa using h
      have t2 : (b == 4611686018427387904) = false := by simpa using h1
      clear h h1
      by_cases ca : a.tmod 2 = 0
      · by_cases cb : b.tmod 2 = 0
        · rw [if_neg (by omega)]
          go_enter Tryz.func72, Tryz.ntmps72
          go_wp2
          all_goals go_ret
          all_goals first | exact ⟨rfl, rfl⟩ | (exfalso; simp_all; done)
        · rw [if_pos (by omega)]
          have cb' : (b.tmod 2 != 0) = true := by simpa using cb
          go_enter Tryz.func72, Tryz.ntmps72
          go_wp2
          all_goals go_ret
          all_goals first | exact ⟨rfl, rfl⟩ | (exfalso; simp_all; done)
      · rw [if_pos (by omega)]
        have ca' : (a.tmod 2 != 0) = true := by simpa using ca
        go_enter Tryz.func72, Tryz.ntmps72
        go_wp2
        all_goals go_ret
        all_goals first | exact ⟨rfl, rfl⟩ | (exfalso; simp_all; done)
set_option maxHeartbeats 4000000 in
theorem closed_any (d g n m : Nat) (r : Mat) (w : World) (hn : n ≤ 8) (hm : m = (n + 1) * (n + 1)) (h : RC w d g n m r) :
    Calls Tryz.prog 45 #[.pointer (some ⟨d, 0, none⟩)] w fun e w' => e = .returned (.bool (rcl n (n + 1) r).isSome) ∧ Below g w w' ∧ OnlyB g w w' ∧ (∃ s, RC w' d g n m s ∧ ∀ s', rcl n (n + 1) r = some s' → s' = s) := by
  have HR := hideD h
  have HAt : Hid (∀ (i j : Nat) s w, i ≤ n → j ≤ n → RC w d g n m s → _) := fun i j s w hi hj hr => rat_any d g n m i j s w hn hi hj hm hr
  have HLs : Hid (∀ (i j : Nat) (v : Int) s w, i ≤ n → j ≤ n → RC w d g n m s → _) := fun i j v s w hi hj hr => less_any d g n m i j v s w hn hi hj hm hr
  clear h hm
  go_enter Tryz.func45, Tryz.ntmps45
  go_wp2_with fail
  go_loopw [3] (fun s wr => ∃ (K : Nat) (q : Mat), K ≤ n + 1 ∧ s = .int .i64 K ∧ Hid (rcl n K r = some q) ∧ Hid (RC wr d g n m q) ∧ Hid (Below g w wr) ∧ Hid (OnlyB g w wr)) (fun s _ => n + 1 - (intOf s).toNat)
  case atStart => exact ⟨0, r, by omega, rfl, rfl, HR, Below.refl _ _, OnlyB.refl _ _⟩
  case round =>
    obtain ⟨K, q, hK, rfl, hq, hR, hB, hO⟩ := hrel
    clear HR
    have c0 : wr.cell? ⟨d, 0, none⟩ = some (.int .i64 (n : Int)) := by obtain ⟨_, h0, _⟩ := hR.out; exact h0
    by_cases ck : K ≤ n
    · go_wp2_with fail
      clear c0
      go_loopw [4] (fun s wr => ∃ (I : Nat), I ≤ n + 1 ∧ s = .int .i64 I ∧ Hid (RC wr d g n m (rcAll K n I q)) ∧ Hid (Below g w wr) ∧ Hid (OnlyB g w wr)) (fun s _ => n + 1 - (intOf s).toNat)
      case atStart => exact ⟨0, by omega, rfl, hR, hB, hO⟩
      case round =>
        obtain ⟨I, hI, rfl, hR, hB, hO⟩ := hrel
        have c0 : wr.cell? ⟨d, 0, none⟩ = some (.int .i64 (n : Int)) := by obtain ⟨_, h0, _⟩ := hR.out; exact h0
        by_cases ci : I ≤ n
        · go_wp2_with fail
          clear c0
          go_loopw [5] (fun s wr => ∃ (J : Nat), J ≤ n + 1 ∧ s = .int .i64 J ∧ Hid (RC wr d g n m (rcRow K I J (rcAll K n I q))) ∧ Hid (Below g w wr) ∧ Hid (OnlyB g w wr)) (fun s _ => n + 1 - (intOf s).toNat)
          case atStart => exact ⟨0, by omega, rfl, hR, hB, hO⟩
          case round =>
            obtain ⟨J, hJ, rfl, hR, hB, hO⟩ := hrel
            have c0 : wr.cell? ⟨d, 0, none⟩ = some (.int .i64 (n : Int)) := by obtain ⟨_, h0, _⟩ := hR.out; exact h0
            by_cases cj : J ≤ n
            · have nx : Hid (rcRow K I (J + 1) (rcAll K n I q) = lessM (rcRow K I J (rcAll K n I q)) I J (dplus (rcRow K I J (rcAll K n I q) I K) (rcRow K I J (rcAll K n I q) K J))) := rfl
              generalize rcRow K I J (rcAll K n I q) = p at *
              have H1 := hideD (fun w h => HAt.out I K p w ci ck h)
              have H2 := hideD (fun w h => HAt.out K J p w ck cj h)
              have H3 := hideD (fun v w h => HLs.out I J v p w ci cj h)
              have HP := hideD (fun w => plus4_any (p I K) (p K J) w)
              go_wp2_with fail
              refine (H1.out _ hR.out).mono ?_
              rintro e w1 ⟨rfl, k1, rfl⟩
              go_wp2_with fail
              refine (H2.out _ (hR.out.drewN k1)).mono ?_
              rintro e w2 ⟨rfl, k2, rfl⟩
              go_wp2_with fail
              refine (HP.out _).mono ?_
              rintro e w3 ⟨rfl, rfl⟩
              have hB3 := hideD (below_drewN hB.out (k1 + k2))
              have hO3 : Hid (OnlyB g w (wr.drewN (k1 + k2))) := ⟨hO.out.1, hO.out.2⟩
              have hR3 := hideD (hR.out.drewN (k1 + k2))
              generalize wr.drewN (k1 + k2) = wx at *
              clear hR hB hO H1 H2 HP c0
              go_wp2_with fail
              refine (H3.out _ _ hR3.out).mono ?_
              rintro e w4 ⟨rfl, hr, hb, ho⟩
              have hR4 : Hid (RC w4 d g n m (rcRow K I (J + 1) (rcAll K n I q))) := by show RC _ _ _ _ _ _; rw [nx.out]; exact hr
              have hB4 := hideD (hB3.out.trans hb)
              have hO4 := hideD (hO3.out.trans ho)
              clear hr hb ho hR3 hB3 hO3 H3 nx
              go_wp2_with fail
              go_roundw
              case rel => exact ⟨J + 1, by omega, by go_num, hR4, hB4, hO4⟩
              case measure => simp [intOf]; omega
            · have ej : J = n + 1 := by omega
              subst ej
              go_wp2_with fail
              go_roundw
              case rel => exact ⟨I + 1, by omega, by go_num, hR, hB, hO⟩
              case measure => simp [intOf]; omega
        · have ei : I = n + 1 := by omega
          obtain ⟨p, hp⟩ : ∃ p, p = rcAll K n I q := ⟨_, rfl⟩
          rw [← hp] at hR
          have EP : Hid (rcAll K n (n + 1) q = p) := by rw [hp, ei]; exact rfl
          clear hp ei
          go_wp2_with fail
          clear c0
          go_loopw [6] (fun s wr => ∃ (I : Nat), I ≤ n + 1 ∧ s = .int .i64 I ∧ Hid (diagOk n p I = true) ∧ Hid (RC wr d g n m p) ∧ Hid (Below g w wr) ∧ Hid (OnlyB g w wr)) (fun s _ => n + 1 - (intOf s).toNat)
          case atStart => exact ⟨0, by omega, rfl, rfl, hR, hB, hO⟩
          case round =>
            obtain ⟨I2, hI2, rfl, hd, hR, hB, hO⟩ := hrel
            have c0 : wr.cell? ⟨d, 0, none⟩ = some (.int .i64 (n : Int)) := by obtain ⟨_, h0, _⟩ := hR.out; exact h0
            by_cases c2 : I2 ≤ n
            · have H1 := hideD (HAt.out I2 I2 p wr c2 c2 hR.out)
              have st : Hid (diagOk n p (I2 + 1) = decide (1 ≤ p I2 I2)) := by show _ = _; simp [diagOk, hd.out]
              generalize p I2 I2 = x at *
              by_cases cx : x < 1
              · have st3 : Hid (rcl n (n + 1) r = none) := by
                  have e : diagOk n p (n + 1) = false := diagOk_false (c := I2 + 1) (n + 1) (by omega) (by rw [st.out, decide_eq_false (by omega)])
                  refine rcl_none (c := K + 1) (n + 1) (by omega) ?_
                  simp [rcl, hq.out, EP.out, e]
                clear st
                go_wp2_with fail
                refine H1.out.mono ?_
                rintro e w1 ⟨rfl, k1, rfl⟩
                go_wp2_with fail
                go_ret
                exact ⟨by rw [st3.out]; rfl, below_drewN hB.out k1, ⟨hO.out.1, hO.out.2⟩, p, hR.out.drewN k1, fun s' e => by rw [st3.out] at e; cases e⟩
              · have st3 : Hid (diagOk n p (I2 + 1) = true) := by show _ = _; rw [st.out, decide_eq_true (by omega)]
                clear st
                go_wp2_with fail
                refine H1.out.mono ?_
                rintro e w1 ⟨rfl, k1, rfl⟩
                have hR3 := hideD (hR.out.drewN k1)
                have hB3 := hideD (below_drewN hB.out k1)
                have hO3 : Hid (OnlyB g w (wr.drewN k1)) := ⟨hO.out.1, hO.out.2⟩
                clear hR hB hO c0 H1
                go_wp2_with fail
                go_roundw
                case rel => exact ⟨I2 + 1, by omega, by go_num, st3, hR3, hB3, hO3⟩
                case measure => simp [intOf]; omega
            · have e2 : I2 = n + 1 := by omega
              subst e2
              have st3 : Hid (rcl n (K + 1) r = some p) := by show _ = _; simp [rcl, hq.out, EP.out, hd.out]
              go_wp2_with fail
              go_roundw
              case rel => exact ⟨K + 1, p, by omega, by go_num, st3, hR, hB, hO⟩
              case measure => simp [intOf]; omega
    · have eK : K = n + 1 := by omega
      subst eK
      go_wp2_with fail
      go_ret
      exact ⟨by rw [hq.out]; rfl, hB.out, hO.out, q, hR.out, fun s' e => by rw [hq.out] at e; injection e with e; exact e.symm⟩
end Go.Proofs.YtfhfdpapppgfpaaGreatDoor

/-
  The document's cells of ops: open.
-/
namespace Go.Proofs.YtfhfdpapppgfpaaGreatDoor
open Go.RowKit
set_option linter.unusedVariables false
set_option maxRecDepth 100000
/-- What lies in memory while open goes on: in block d so many cells, their row own. -/
def OpSt (w0 w2 : World) (d n : Nat) (l : List Int) (K : Nat) (v : Value) (W : World) : Prop :=
  W.ownsRow w2.heap.size 2 1 v K ((wideL l K).map (Value.int .i64)) ∧ W.cell? ⟨d, 0, none⟩ = some (.int .i64 (n : Int)) ∧ W.cell? ⟨d, 1, none⟩ = some v ∧ W.frozen? ⟨d, 1, none⟩ = false ∧ OnlyB d w2 W ∧ d < w2.heap.size ∧ Below d w0 W
theorem OpSt.app {w0 w2 : World} {d n K : Nat} {l : List Int} {v v' : Value} {W W0 w1 : World} {o : Obj} (h : OpSt w0 w2 d n l K v W) (hW' : W0 = W ∨ W0 = W.drew) (hk : K < l.length)
    (hown : w1.ownsRow w2.heap.size 2 1 v' (K + 1) ((wideL l K).map (Value.int .i64) ++ [.int .i64 (wideV (l.getD K 0))])) (hg : (W0.alloc o).grownBy w1 v.ownBlock) : OpSt w0 w2 d n l (K + 1) v' (w1.setCell ⟨d, 1, none⟩ v') := by
  have hW : W0.heap = W.heap := by rcases hW' with rfl | rfl <;> rfl
  obtain ⟨h1, h2, h3, h4, h5, h6, h7⟩ := h
  have own : ∀ k, v.ownBlock = some k → w2.heap.size ≤ k := fun k hk => (h1.lt k hk).1
  have blk : ∀ k, k < w2.heap.size → w1.heap[k]? = W.heap[k]? := fun k hk => by
    have hs : k < W.heap.size := Nat.lt_of_lt_of_le hk h5.1
    rw [hg.block k (by simp [hW]; omega) (fun e => by have := own k e.symm; omega)]
    rw [Lib.alloc_old W0 _ k (by rw [hW]; exact hs), hW]
  have bd := blk d h6
  have e0 : w1.cell? ⟨d, 0, none⟩ = W.cell? ⟨d, 0, none⟩ := World.cell?_of_block (w := W) bd
  have e1 : w1.cell? ⟨d, 1, none⟩ = W.cell? ⟨d, 1, none⟩ := World.cell?_of_block (w := W) bd
  have e2 : w1.frozen? ⟨d, 1, none⟩ = W.frozen? ⟨d, 1, none⟩ := World.frozen?_of_block (w := W) bd
  have h8 : Below d w0 W0 := by
    rcases hW' with rfl | rfl
    · exact h7
    · exact h7.drew
  refine ⟨?_, ?_, ?_, ?_, ?_, h6, ?_⟩
  · rw [wideL_next l K hk, List.map_append]
    exact ownsRow_setCell_below hown (by exact h6) _
  · rw [World.cell?_setCell_other _ _ _ _ (by intro e; injection e; omega), e0]; exact h2
  · rw [World.cell?_setCell_same _ _ _ (e1.trans h3)]
  · rw [World.frozen?_setCell, e2]; exact h4
  · refine OnlyB.set ⟨?_, fun k hk hd => (blk k hk).trans (h5.2 k hk hd)⟩ rfl _
    have := hg.size
    simp [hW] at this
    have := h5.1
    omega
  · have sz : d ≤ W0.heap.size := by rw [hW]; have := h5.1; omega
    exact ((h8.alloc sz _).grown hg (by simp; omega) (fun k hk => by have := own k hk; omega)).setCell (Nat.le_refl _) _
theorem OpSt.mid {w0 w2 : World} {d n K : Nat} {l : List Int} {v : Value} {W W0 w1 : World} {o : Obj} (h : OpSt w0 w2 d n l K v W) (hW' : W0 = W ∨ W0 = W.drew) (hg : (W0.alloc o).grownBy w1 v.ownBlock) : w1.cell? ⟨d, 1, none⟩ = some v ∧ w1.frozen? ⟨d, 1, none⟩ = false := by
  have hW : W0.heap = W.heap := by rcases hW' with rfl | rfl <;> rfl
  obtain ⟨h1, h2, h3, h4, h5, h6, h7⟩ := h
  have own : ∀ k, v.ownBlock = some k → w2.heap.size ≤ k := fun k hk => (h1.lt k hk).1
  have bd : w1.heap[d]? = W.heap[d]? := by
    have hs : d < W.heap.size := Nat.lt_of_lt_of_le h6 h5.1
    rw [hg.block d (by simp [hW]; omega) (fun e => by have := own d e.symm; omega)]
    rw [Lib.alloc_old W0 _ d (by rw [hW]; exact hs), hW]
  exact ⟨(World.cell?_of_block (w := W) (a := ⟨d, 1, none⟩) bd).trans h3, (World.frozen?_of_block (w := W) (a := ⟨d, 1, none⟩) bd).trans h4⟩
set_option maxHeartbeats 4000000 in
theorem open_any (r n m B : Nat) (l : List Int) (w : World) (hn : n ≤ 8) (hm : m = (n + 1) * (n + 1)) (hl : l.length = m) (hi : ∀ j, j < m → -2147483648 ≤ l.getD j 0 ∧ l.getD j 0 ≤ 2147483647) (h : RZone w B r n l) :
    Calls Tryz.prog 35 #[.pointer (some ⟨r, 0, none⟩)] w fun e w' => (∃ d g, e = .returned (.pointer (some ⟨d, 0, none⟩)) ∧ w.heap.size ≤ d ∧ w.heap.size ≤ g ∧ RC w' d g n m (rowMat n l)) ∧ Below w.heap.size w w' := by
  have HD := hideD (rdim_any h)
  obtain ⟨g0, cap0, r0, r1, r2, r3, r4⟩ := h
  rw [hl] at r1
  have m81 : m ≤ 81 := by rw [hm]; exact Nat.mul_le_mul (show n + 1 ≤ 9 by omega) (show n + 1 ≤ 9 by omega)
  have mp : 0 < m := by rw [hm]; exact Nat.mul_pos (by omega) (by omega)
  obtain ⟨i0, hi0, hz0, hz1, hz2⟩ := info_parts info_i64
  have B0 := below_one w (.cells #[.int .i64 n, .slice none 0 0] 66)
  have HC := hideD (rcells_own r g0 n cap0 m l (w.alloc (.cells #[.int .i64 n, .slice none 0 0] 66)) hl m81 mp (kc _ _ B0 r1) (r4.later B0 (World.block_lt_of_cell? _ _ (r4 0 (by omega)))))
  have hB0 := hideD B0
  have HI := hideD hi
  have HM := hideD hm
  have m1 : (m : Int) ≤ 81 := by omega
  clear r0 r1 r2 r3 r4 B0 hi hm
  have d0 : (w.alloc (.cells #[.int .i64 n, .slice none 0 0] 66)).cell? ⟨w.heap.size, 0, none⟩ = some (.int .i64 (n : Int)) := by simp [go_sem]
  have d1 : (w.alloc (.cells #[.int .i64 n, .slice none 0 0] 66)).cell? ⟨w.heap.size, 1, none⟩ = some (.slice none 0 0) := by simp [go_sem]
  have d2 : (w.alloc (.cells #[.int .i64 n, .slice none 0 0] 66)).frozen? ⟨w.heap.size, 1, none⟩ = false := by simp [go_sem]
  have D0 := hideD d0
  have D1 := hideD d1
  have D2 := hideD d2
  clear d0 d1 d2
  go_enter Tryz.func35, Tryz.ntmps35
  go_wp2_with fail
  refine HD.out.mono ?_
  rintro e w' ⟨rfl, rfl⟩
  go_wp2_with fail
  refine HC.out.mono ?_
  rintro e w2 ⟨⟨g1, cap1, rfl, hg1, hg2, hrow, hfr⟩, hb2⟩
  have S0 : Hid (OpSt w' w2 w'.heap.size n l 0 (.slice none 0 0) w2) := ⟨World.ownsRow_nil _ _ _ _, kc _ _ hb2 D0.out, kc _ _ hb2 D1.out, kf _ _ hb2 D1.out D2.out, OnlyB.refl _ _, by have := hb2.size; simp at this; omega, beyondD hB0.out hb2⟩
  have hB2 := hideD (beyondD hB0.out hb2)
  have hg1' : Hid (w'.heap.size < g1 ∧ g1 < w2.heap.size) := ⟨by simp at hg1; exact hg1, hg2⟩
  have HR := hideD hrow
  clear hrow hfr hb2 HC HD hB0 D0 D1 D2 hg1 hg2
  go_wp2_with fail
  go_loopw [5] (fun s wr => ∃ (K : Nat) (v : Value), K ≤ m ∧ s = .int .i64 (K : Int) ∧ Hid (OpSt w' w2 w'.heap.size n l K v wr)) (fun s _ => m - (intOf s).toNat)
  case atStart => exact ⟨0, _, by omega, rfl, S0⟩
  case round =>
    obtain ⟨K, v, hK, rfl, hS⟩ := hrel
    clear S0
    by_cases ck : K < m
    · have k0 : (0 : Int) ≤ (K : Int) := by omega
      have k1 : (K : Int) < (m : Int) := by omega
      have c0 : wr.cell? ⟨g1, K, none⟩ = some (.int .i32 (l.getD K 0)) := by
        have := HR.out K (by omega)
        rw [Nat.zero_add] at this
        exact (hS.out.2.2.2.2.1.cell (p := ⟨g1, K, none⟩) hg1'.out.2 (by have := hg1'.out.1; show g1 ≠ _; omega)).trans this
      have q1 := hS.out.2.2.1
      have q2 := hS.out.2.2.2.1
      have AP := hideD (fun v' w1 o => OpSt.app (v' := v') (w1 := w1) (o := o) hS.out (.inl rfl) (by omega : K < l.length))
      have AP2 := hideD (fun v' w1 o => OpSt.app (v' := v') (w1 := w1) (o := o) (W0 := wr.drew) hS.out (.inr rfl) (by omega : K < l.length))
      have OW := hideD hS.out.1
      have MD := hideD (fun w1 o => OpSt.mid (w1 := w1) (o := o) hS.out (.inl rfl))
      have MD2 := hideD (fun w1 o => OpSt.mid (w1 := w1) (o := o) (W0 := wr.drew) hS.out (.inr rfl))
      have SZ : Hid (w2.heap.size ≤ wr.heap.size) := hS.out.2.2.2.2.1.1
      have sz1 : w'.heap.size < wr.heap.size := Nat.lt_of_lt_of_le hS.out.2.2.2.2.2.1 SZ.out
      have sz2 : g1 < wr.heap.size := Nat.lt_of_lt_of_le hg1'.out.2 SZ.out
      have WV : Hid (wideV (l.getD K 0) = if l.getD K 0 = 2147483647 then 4611686018427387904 else l.getD K 0) := rfl
      have IK := HI.out K ck
      clear hS
      generalize l.getD K 0 = x at *
      by_cases cx : x = 2147483647
      · subst cx
        have wv : wideV 2147483647 = 4611686018427387904 := rfl
        rw [wv] at AP
        go_wp2_with (at_builtin; refine wpList_append_own _ rfl _ _ 64 rfl w2.heap.size 2 i0 (.int .i64 0) 1 8 Tryz.underlying64 hi0 hz0 hz1 hz2 rfl (by decide) v K ((wideL l K).map (Value.int .i64)) rfl (OW.out.alloc _) ⟨wr.heap.size, 0, none⟩ 1 1 [.int .i64 4611686018427387904] rfl rfl (cell_one_new wr _ _) (fun u hu => by simp at hu; subst hu; rfl) (by unfold maxLen; omega) (by omega) (by have := SZ.out; simp; omega) ?_; intro v' w3 hown hgrow hnil; obtain ⟨gv, cw, rfl⟩ := own_form hown; obtain ⟨t1, t2⟩ := MD.out _ _ hgrow; have S3 := hideD (AP.out _ _ _ hown hgrow); clear hown hgrow hnil q1 q2)
        go_roundw
        case rel => exact ⟨K + 1, _, by omega, by go_num, S3⟩
        case measure => simp [intOf]; omega
      · have wv : wideV x = x := by rw [WV.out, if_neg cx]
        rw [wv] at AP2
        have ex : wrap64 x = x := by unfold wrap64; omega
        have ex2 : IntKind.i64.wrap x = x := by rw [IntKind.wrap_i64]; omega
        have bx : (x == 2147483647) = false := by simpa using cx
        go_upto_region 8 with (fail)
        go_region_law (refine step_own rfl (.tmp 36) (.tmp 42) 64 rfl w2.heap.size 2 i0 (.int .i64 0) 1 8 Tryz.underlying64 hi0 hz0 hz1 hz2 rfl (by decide) v K ((wideL l K).map (Value.int .i64)) (by simp [Act.eval]) (by first | exact OW.out.alloc _ | exact (OW.out.drew).alloc _) ⟨wr.heap.size, 0, none⟩ 1 1 [.int .i64 x] (by simp [Act.eval]) rfl (by first | exact cell_one_new wr.drew _ _ | exact cell_one_new wr _ _) (fun u hu => by simp at hu; subst hu; rfl) (by unfold maxLen; omega) (by omega) (by have := SZ.out; simp; omega) ?_; intro v' w3 hown hgrow; obtain ⟨gv, cw, rfl⟩ := own_form hown; obtain ⟨t1, t2⟩ := MD2.out _ _ hgrow; have S3 := hideD (AP2.out _ _ _ hown hgrow); clear hown hgrow q1 q2)
        all_goals
          go_wp2_with fail
          go_roundw
          case rel => exact ⟨K + 1, _, by omega, by go_num, S3⟩
          case measure => simp [intOf]; omega
    · have eK : K = m := by omega
      subst eK
      have FIN : Hid ((∃ d g, Ending.returned (.pointer (some ⟨w'.heap.size, 0, none⟩)) = Ending.returned (.pointer (some ⟨d, 0, none⟩)) ∧ w'.heap.size ≤ d ∧ w'.heap.size ≤ g ∧ RC wr d g n K (rowMat n l)) ∧ Below w'.heap.size w' wr) := by
        obtain ⟨h1, h2, h3, h4, h5, h6, h7⟩ := hS.out
        rcases h1.2 with ⟨-, hz⟩ | ⟨gv, cw, cur, rfl, hg, -⟩
        · omega
        · refine ⟨⟨_, gv, rfl, Nat.le_refl _, by omega, cw, h2, h3, by omega, ?_⟩, h7⟩
          have h1' := h1
          rw [← hl] at h1'
          exact matAt_own (by rw [hl, HM.out]) h1'
      clear hS
      go_wp2_with fail
      exact bodyPost_ret (v := .pointer (some ⟨w'.heap.size, 0, none⟩)) (by simp [results, Tryz.results35, go_sem]) rfl FIN.out
end Go.Proofs.YtfhfdpapppgfpaaGreatDoor

/-
  Which zone a matrix makes hangs on the closed matrices below it alone.
-/
namespace Go.Proofs.YtfhfdpapppgfpaaGreatDoor
open Go.RowKit
set_option linter.unusedVariables false
/-- A closed matrix. -/
structure Cl (n : Nat) (q : Mat) : Prop where
  fin : FinM n 144115188075855872 q
  one : One n q
  tri : Tri n (n + 1) q
def Le (n : Nat) (q r : Mat) : Prop := ∀ i j, i ≤ n → j ≤ n → q i j ≤ r i j
/-- A matrix that may be closed. -/
structure Ok (n : Nat) (r : Mat) : Prop where
  fin : FinM n (Kb 0) r
  diag : ∀ i, i ≤ n → r i i ≤ 1
theorem Rounds.cl {n : Nat} {r p : Mat} (hn : n ≤ 8) (h : Rounds n (n + 1) r p) : Cl n p := ⟨fin_mono h.fin (Kb_bd (n + 1) (by omega)).2, h.one, h.tri⟩
theorem one_of {n : Nat} {q r : Mat} (hq : Cl n q) (hr : Ok n r) (h : Le n q r) : One n r := fun i hi => by
  have := hq.one i hi
  have := h i i hi hi
  have := hr.diag i hi
  omega
/-- The greatest closed matrix below. -/
theorem close_above {n : Nat} {q r : Mat} (hn : n ≤ 8) (hq : Cl n q) (hr : Ok n r) (h : Le n q r) : ∃ p, closeR n r = some p ∧ Le n q p := by
  have o := one_of hq hr h
  obtain ⟨p, hp, hl⟩ := rounds_above hn hr.fin o hq.fin hq.one hq.tri h (n + 1) (Nat.le_refl _)
  refine ⟨p, ?_, hl⟩
  unfold closeR
  rw [o.ok]
  exact hp
theorem narAll_congr {n : Nat} {p q : Mat} (h : ∀ i j, i ≤ n → j ≤ n → p i j = q i j) : ∀ m, m ≤ (n + 1) * (n + 1) → narAll n p m = narAll n q m
  | 0, _ => rfl
  | m + 1, hm => by
    have d1 : m / (n + 1) ≤ n := by have := Nat.div_lt_of_lt_mul (show m < (n + 1) * (n + 1) by omega); omega
    have d2 : m % (n + 1) ≤ n := by have := Nat.mod_lt m (show 0 < n + 1 by omega); omega
    simp only [narAll, narAll_congr h m (by omega), flat, h _ _ d1 d2]
theorem cellsUpto_congr {n : Nat} {p q : Mat} (h : ∀ i j, i ≤ n → j ≤ n → p i j = q i j) (m : Nat) (hm : m ≤ (n + 1) * (n + 1)) : cellsUpto n p m = cellsUpto n q m := by
  funext k
  unfold cellsUpto
  split
  · rename_i hk
    have d1 : k / (n + 1) ≤ n := by have := Nat.div_lt_of_lt_mul (show k < (n + 1) * (n + 1) by omega); omega
    have d2 : k % (n + 1) ≤ n := by have := Nat.mod_lt k (show 0 < n + 1 by omega); omega
    simp only [flat, h _ _ d1 d2]
  · rfl
theorem zone_same {n : Nat} {r s : Mat} (hn : n ≤ 8) (hr : Ok n r) (hs : Ok n s) (H : ∀ q, Cl n q → (Le n q r ↔ Le n q s)) : zoneR n r = zoneR n s := by
  have half : ∀ {r s : Mat}, Ok n r → Ok n s → (∀ q, Cl n q → (Le n q r ↔ Le n q s)) → ∀ p, closeR n r = some p → ∃ q, closeR n s = some q ∧ Le n p q := by
    intro r s hr hs H p e
    have R := close_rounds hn hr.fin hr.diag e
    exact close_above hn (R.cl hn) hs ((H p (R.cl hn)).1 R.le)
  cases e : closeR n r with
  | none =>
    cases e2 : closeR n s with
    | none => simp [zoneR, e, e2]
    | some q =>
      obtain ⟨p, hp, -⟩ := half hs hr (fun q hq => (H q hq).symm) q e2
      rw [hp] at e
      cases e
  | some p =>
    obtain ⟨q, e2, h1⟩ := half hr hs H p e
    obtain ⟨p', e3, h2⟩ := half hs hr (fun q hq => (H q hq).symm) q e2
    rw [e] at e3
    cases e3
    have eq : ∀ i j, i ≤ n → j ≤ n → p i j = q i j := fun i j hi hj => Int.le_antisymm (h1 i j hi hj) (h2 i j hi hj)
    simp [zoneR, e, e2, narAll_congr eq _ (Nat.le_refl _), cellsUpto_congr eq _ (Nat.le_refl _)]
theorem tgV_narr {s q : Int} (hs : s = opn ∨ s = 1) (le : q ≤ s) (ok : narOk q = true) : tgV s (narB q) = q := by
  have ho := opn_val
  by_cases e : q = opn
  · have : narB q = 2147483647 := by unfold narB; rw [if_pos e]
    rw [this]
    unfold tgV
    rw [if_pos rfl]
    omega
  · have h' : ¬ (q < -536870912 ∨ 536870913 < q) := by unfold narOk at ok; simpa [e] using ok
    have : narB q = q := by unfold narB; rw [if_neg e, if_neg h']
    rw [this]
    unfold tgV
    rw [if_neg (by omega)]
    omega
theorem nl_get (n : Nat) (p : Mat) (m i j : Nat) (hj : j ≤ n) (h : i * (n + 1) + j < m) : (nl n p m).getD (i * (n + 1) + j) 0 = narB (p i j) := by
  simp [nl, List.getD, h, flat_at n p i j hj]
theorem nl_right (n : Nat) (p : Mat) (m : Nat) : RightL m (nl n p m) := fun k hk => by
  have e : (nl n p m).getD k 0 = narB (flat n p k) := by simp [nl, List.getD, hk]
  rw [e]
  unfold narB
  split
  · exact .inl rfl
  · split
    · exact .inr ⟨by omega, by omega⟩
    · exact .inr ⟨by omega, by omega⟩
theorem drf_ok (n m : Nat) (l : List Int) (hm : m = (n + 1) * (n + 1)) (hr : RightL m l) : Ok n (drf n m l) := ⟨drf_fin n m l hm hr, drf_diag n m l hm hr⟩
/-- What closes once and has first bounds that may be is the zone of its own narrowed cells. -/
theorem zone_again {n m : Nat} {r p : Mat} (hn : n ≤ 8) (hm : m = (n + 1) * (n + 1)) (hr : Ok n r) (h0 : ∀ j, j ≤ n → r 0 j ≤ 1) (e : closeR n r = some p) (na : narAll n p m = true) : zoneR n (drf n m (nl n p m)) = zoneR n r := by
  have R := close_rounds hn hr.fin hr.diag e
  have same : ∀ i j, i ≤ n → j ≤ n → drf n m (nl n p m) i j = p i j := fun i j hi hj => by
    have lt : i * (n + 1) + j < m := by rw [hm]; exact pos_lt hi hj
    rw [drf_at n m _ hm i j hi hj, nl_get n p m i j hj lt]
    have ok := narAll_at na (i * (n + 1) + j) lt
    rw [flat_at n p i j hj] at ok
    refine tgV_narr (by unfold startV; split; exact .inl rfl; exact .inr rfl) ?_ ok
    have le := R.le i j hi hj
    unfold startV
    split
    · have f := (fin_mono R.fin (Kb_bd (n + 1) (by omega)).2) i j hi hj
      have ho := opn_val
      unfold Fin' at f
      omega
    · rename_i q
      by_cases i0 : i = 0
      · subst i0
        have := h0 j hj
        omega
      · obtain rfl : i = j := by omega
        have := R.one i hi
        omega
  refine zone_same hn (drf_ok n m _ hm (nl_right n p m)) hr fun q hq => ⟨fun h i j hi hj => ?_, fun h i j hi hj => ?_⟩
  · have := h i j hi hj
    rw [same i j hi hj] at this
    exact Int.le_trans this (R.le i j hi hj)
  · rw [same i j hi hj]
    obtain ⟨p', e', hl⟩ := close_above hn hq hr h
    rw [e] at e'
    cases e'
    exact hl i j hi hj
end Go.Proofs.YtfhfdpapppgfpaaGreatDoor

/-
  The document's cells of ops: Nothing, shut.
-/
namespace Go.Proofs.YtfhfdpapppgfpaaGreatDoor
open Go.RowKit
set_option linter.unusedVariables false
set_option maxRecDepth 100000
def LN : Lims := ⟨1, fun _ => 0, fun _ => 0, fun _ => 0⟩
theorem okLN (n : Nat) : okAll n LN LN.q = true := by
  show okAll n LN 1 = true
  simp [okAll, okL, LN, rightB]
theorem zoneLN (n : Nat) : zoneR n (tlAll LN LN.q (startR n (n + 1) 0)) = some (fun _ => 0) := by
  have hd : diagOk n (tlAll LN LN.q (startR n (n + 1) 0)) (n + 1) = false := by
    refine diagOk_false (c := 1) (n + 1) (by omega) ?_
    have : tlAll LN LN.q (startR n (n + 1) 0) 0 0 = 0 := by
      show tg _ _ _ _ 0 0 = 0
      have e : startR n (n + 1) 0 0 0 = 1 := by rw [start_at n 0 0 (by omega) (by omega)]; rfl
      simp [LN, tg, upd, tlAll, e]
      decide
    simp [diagOk, this]
  unfold zoneR closeR
  rw [hd]
  rfl
theorem nothing_any (n m : Nat) (w : World) (hn : n ≤ 8) (hm : m = (n + 1) * (n + 1)) :
    Calls Tryz.prog 33 #[.int .i64 n] w fun e w' => (∃ b B, e = .returned (.pointer (some ⟨b, 0, none⟩)) ∧ RZone w' B b n (listOf (fun _ => 0) m)) ∧ Below w.heap.size w w' := by
  have B0 := below_one w (.cells #[.int .i64 0, .int .i64 0, .int .i32 0] 47)
  have hR : LimRow (w.alloc (.cells #[.int .i64 0, .int .i64 0, .int .i32 0] 47)) w.heap.size 0 LN := fun k hk => by
    obtain rfl : k = 0 := by simp [LN] at hk; omega
    simp [go_sem, LN]
  have H : Calls Tryz.prog 71 #[.int .i64 n, .slice (some ⟨w.heap.size, 0, none⟩) 1 1] _ _ := rlimits_main n w.heap.size 0 1 m LN _ hn hm hR (by simp) (fun k hk => by simp [LN]) (by simp [LN])
  rw [okLN, zoneLN] at H
  have H := hideD H
  have hB := hideD B0
  clear hR B0
  go_enter Tryz.func33, Tryz.ntmps33
  go_wp2_with fail
  refine H.out.mono ?_
  rintro e w1 ⟨hb, ⟨h1, -⟩ | ⟨-, B', b, rfl, hz⟩⟩
  · cases h1
  · have hB1 := hideD (beyondD hB.out hb)
    clear hb H
    go_wp2_with fail
    go_ret
    exact ⟨⟨b, B', rfl, hz⟩, hB1.out⟩
theorem allRight_nl (n : Nat) (p : Mat) (m : Nat) : ∀ k, k ≤ m → allRight (nl n p m) k = true
  | 0, _ => rfl
  | k + 1, hk => by
    have e : (nl n p m).getD k 0 = narB (flat n p k) := by simp [nl, List.getD, show k < m by omega]
    have r := nl_right n p m k (by omega)
    simp only [allRight, allRight_nl n p m k (by omega), Bool.true_and]
    unfold rightB
    exact decide_eq_true r
/-- What shut tells of cells. -/
def ShutOut (w' : World) (n m : Nat) (e : Ending) (r : Mat) : Prop := ∃ B, RZoneOut w' B n e ((zoneR n r).map fun c => listOf c m)
theorem ShutOut.form {w' : World} {n m : Nat} {e : Ending} {r : Mat} (h : ShutOut w' n m e r) : ∃ p k, e = .returned (.tuple #[.pointer p, .int .i64 k]) := by
  obtain ⟨B, h⟩ := h
  cases ez : zoneR n r with
  | none => rw [ez] at h; exact ⟨_, _, h⟩
  | some c =>
    rw [ez] at h
    obtain ⟨b', h, -⟩ := h
    exact ⟨_, _, h⟩
set_option maxHeartbeats 4000000 in
theorem shut_any (d g n m : Nat) (r : Mat) (w : World) (hn : n ≤ 8) (hm : m = (n + 1) * (n + 1)) (h : RC w d g n m r) (hr : Ok n r) (h0 : ∀ j, j ≤ n → r 0 j ≤ 1) :
    Calls Tryz.prog 39 #[.pointer (some ⟨d, 0, none⟩)] w fun e w' => (∃ p k, e = .returned (.tuple #[.pointer p, .int .i64 k]) ∧ Hid (ShutOut w' n m (.returned (.tuple #[.pointer p, .int .i64 k])) r)) ∧ Hid (Below g w w') := by
  have HC := hideD (closed_any d g n m r w hn hm h)
  have HG : Hid (g < w.heap.size) := h.lt.2
  have hcl : rcl n (n + 1) r = closeR n r := (close_both hr.diag).symm
  rw [hcl] at HC
  have HN : Hid (∀ w, _) := fun w => nothing_any n m w hn hm
  obtain ⟨i0, hi0, hz0, hz1, hz2⟩ := info_parts info_bd
  have m81 : m ≤ 81 := by rw [hm]; exact Nat.mul_le_mul (show n + 1 ≤ 9 by omega) (show n + 1 ≤ 9 by omega)
  have mp : 0 < m := by rw [hm]; exact Nat.mul_pos (by omega) (by omega)
  have m1 : (m : Int) ≤ 81 := by omega
  cases ec : closeR n r with
  | none =>
    have ez : zoneR n r = some (fun _ => 0) := by simp [zoneR, ec]
    have EZ := hideD ez
    rw [ec] at HC
    clear h hr h0 hcl ez ec
    go_enter Tryz.func39, Tryz.ntmps39
    go_wp2_with fail
    refine HC.out.mono ?_
    rintro e w1 ⟨rfl, hb, -, s, hs, -⟩
    have c0 : w1.cell? ⟨d, 0, none⟩ = some (.int .i64 (n : Int)) := by obtain ⟨_, h0, _⟩ := hs; exact h0
    have hB := hideD hb
    clear hb hs HC
    go_wp2_with fail
    refine (HN.out _).mono ?_
    rintro e w2 ⟨⟨b, B, rfl, hz⟩, hb2⟩
    have FIN : Hid (ShutOut w2 n m (.returned (.tuple #[.pointer (some ⟨b, 0, none⟩), .int .i64 0])) r) := ⟨B, by rw [EZ.out]; exact ⟨b, rfl, hz⟩⟩
    have hB2 := hideD (hB.out.trans (hb2.mono (by have := hB.out.size; have := HG.out; omega)))
    clear hz hb2 hB HN
    go_wp2_with fail
    exact bodyPost_ret (v := .tuple #[.pointer (some ⟨b, 0, none⟩), .int .i64 0]) (by simp [results, Tryz.results39, go_sem]) rfl ⟨⟨_, _, rfl, FIN⟩, hB2⟩
  | some p =>
    have EC := hideD ec
    have HR0 := hideD hr
    have H0 := hideD h0
    have HM := hideD hm
    rw [ec] at HC
    clear h hr h0 hcl ec HN hm
    go_enter Tryz.func39, Tryz.ntmps39
    go_wp2_with fail
    refine HC.out.mono ?_
    rintro e w1 ⟨rfl, hb, -, s, hs, hp⟩
    obtain rfl := hp p rfl
    have hB1 := hideD hb
    have hR1 := hideD hs
    clear hb hs hp HC
    go_wp2_with fail
    go_loopw [4, 5] (fun v s wr => ∃ (u : Value) (K : Nat), K ≤ m ∧ v = u ∧ s = .int .i64 (K : Int) ∧ Hid (narAll n p K = true) ∧ Hid (wr.ownsRow w1.heap.size 45 1 u K ((nl n p K).map (Value.int .i32))) ∧ Hid (Below w1.heap.size w1 wr)) (fun _ s _ => m - (intOf s).toNat)
    case atStart => exact ⟨_, 0, by omega, rfl, rfl, rfl, World.ownsRow_nil _ _ _ _, Below.refl _ _⟩
    case round =>
      obtain ⟨u, K, hK, hv, rfl, hN, hO, hB⟩ := hrel
      replace hv := hv.symm
      subst hv
      obtain ⟨cap, c0, c1, -, hM⟩ := hR1.out.past hB.out
      by_cases ck : K < m
      · have k0 : (0 : Int) ≤ (K : Int) := by omega
        have k1 : (K : Int) < (m : Int) := by omega
        have c2 := hM.flat (k := K) (by rw [← HM.out]; exact ck)
        have st : Hid (narAll n p (K + 1) = narOk (flat n p K)) := by show _ = _; simp [narAll, hN.out]
        have nx := hideD (nl_next n p K)
        have SZ := hideD hB.out.size
        have NB : Hid (narB (flat n p K) = if flat n p K = opn then 2147483647 else if flat n p K < -536870912 ∨ 536870913 < flat n p K then 0 else flat n p K) := rfl
        have NO : Hid (narOk (flat n p K) = (decide (flat n p K = opn) || !decide (flat n p K < -536870912 ∨ 536870913 < flat n p K))) := rfl
        clear hM
        generalize flat n p K = x at *
        by_cases cx : x = 4611686018427387904
        · have xb : narB x = 2147483647 := by rw [NB.out, if_pos (show x = opn from cx)]
          have xo : narOk x = true := by rw [NO.out]; simp [show x = opn from cx]
          rw [xb] at nx
          rw [xo] at st
          subst cx
          clear NB NO xb xo
          go_wp2_with (at_builtin; refine wpList_append_own _ rfl _ _ 22 rfl w1.heap.size 45 i0 (.int .i32 0) 1 4 Tryz.underlying22 hi0 hz0 hz1 hz2 rfl (by decide) u K ((nl n p K).map (Value.int .i32)) rfl (hO.out.alloc _) ⟨wr.heap.size, 0, none⟩ 1 1 [.int .i32 2147483647] rfl rfl (cell_one_new wr _ _) (fun u hu => by simp at hu; subst hu; rfl) (by unfold maxLen; omega) (by omega) (by have := SZ.out; simp; omega) ?_; intro v' w3 hown hgrow hnil; obtain ⟨gv, cw, rfl⟩ := own_form hown; have S3 := hideD hown; have B3 := hideD ((hB.out.alloc SZ.out _).grown hgrow (by have := SZ.out; simp; omega) (fun k hk => (hO.out.lt k hk).1)); clear hown hgrow hnil)
          have S4 : Hid (w3.ownsRow w1.heap.size 45 1 (.slice (some ⟨gv, 0, none⟩) (K + 1) cw) (K + 1) ((nl n p (K + 1)).map (Value.int .i32))) := by show World.ownsRow _ _ _ _ _ _ _; rw [nx.out, List.map_append]; exact S3.out
          go_roundw
          case rel => exact ⟨_, K + 1, by omega, rfl, by go_num, st, S4, B3⟩
          case measure => simp [intOf]; omega
        · have t1 : (x != 4611686018427387904) = true := by simpa using cx
          by_cases cr : x < -536870912 ∨ 536870913 < x
          · have xo : narOk x = false := by rw [NO.out]; simp only [show ¬ x = opn from cx, decide_false, Bool.false_or, decide_eq_true cr, Bool.not_true]
            rw [xo] at st
            have st3 : Hid (zoneR n r = none) := by
              show _ = _
              have e : narAll n p ((n + 1) * (n + 1)) = false := by rw [← HM.out]; exact narAll_false (k := K + 1) m (by omega) st.out
              simp [zoneR, EC.out, e]
            have FIN : Hid (ShutOut wr n m (.returned (.tuple #[.pointer none, .int .i64 10])) r) := ⟨0, by rw [st3.out]; exact rfl⟩
            have hBf := hideD (hB1.out.trans (hB.out.mono (by have := hB1.out.size; have := HG.out; omega)))
            clear NB NO xo st nx
            rcases cr with cr | cr
            · go_wp2_with fail
              exact bodyPost_ret (v := .tuple #[.pointer none, .int .i64 10]) (by simp [results, Tryz.results39, go_sem]) rfl ⟨⟨_, _, rfl, FIN⟩, hBf⟩
            · have cl : ¬ x < -536870912 := by omega
              go_wp2_with fail
              exact bodyPost_ret (v := .tuple #[.pointer none, .int .i64 10]) (by simp [results, Tryz.results39, go_sem]) rfl ⟨⟨_, _, rfl, FIN⟩, hBf⟩
          · have xb : narB x = x := by rw [NB.out, if_neg (show ¬ x = opn from cx), if_neg cr]
            have xo : narOk x = true := by rw [NO.out]; simp only [decide_eq_false cr, Bool.not_false, Bool.or_true]
            rw [xb] at nx
            rw [xo] at st
            have q1 : ¬ x < -536870912 := by omega
            have q2 : ¬ 536870913 < x := by omega
            have q3 : wrap32 x = x := by unfold wrap32; omega
            have q4 : IntKind.i32.wrap x = x := by rw [IntKind.wrap_i32]; omega
            clear NB NO xb xo cr
            go_wp2_with (at_builtin; refine wpList_append_own _ rfl _ _ 22 rfl w1.heap.size 45 i0 (.int .i32 0) 1 4 Tryz.underlying22 hi0 hz0 hz1 hz2 rfl (by decide) u K ((nl n p K).map (Value.int .i32)) rfl (hO.out.alloc _) ⟨wr.heap.size, 0, none⟩ 1 1 [.int .i32 x] rfl rfl (cell_one_new wr _ _) (fun u hu => by simp at hu; subst hu; rfl) (by unfold maxLen; omega) (by omega) (by have := SZ.out; simp; omega) ?_; intro v' w3 hown hgrow hnil; obtain ⟨gv, cw, rfl⟩ := own_form hown; have S3 := hideD hown; have B3 := hideD ((hB.out.alloc SZ.out _).grown hgrow (by have := SZ.out; simp; omega) (fun k hk => (hO.out.lt k hk).1)); clear hown hgrow hnil)
            have S4 : Hid (w3.ownsRow w1.heap.size 45 1 (.slice (some ⟨gv, 0, none⟩) (K + 1) cw) (K + 1) ((nl n p (K + 1)).map (Value.int .i32))) := by show World.ownsRow _ _ _ _ _ _ _; rw [nx.out, List.map_append]; exact S3.out
            go_roundw
            case rel => exact ⟨_, K + 1, by omega, rfl, by go_num, st, S4, B3⟩
            case measure => simp [intOf]; omega
      · have eK : K = m := by omega
        subst eK
        obtain ⟨gv, cw, eu, hrow⟩ : ∃ gv cw, u = .slice (some ⟨gv, 0, none⟩) K cw ∧ RowAt wr gv 0 (nl n p K) := by
          rcases hO.out.2 with ⟨-, hz⟩ | ⟨gv, cw, cur, rfl, hg, -⟩
          · omega
          · refine ⟨gv, cw, rfl, fun j hj => ?_⟩
            have hc := World.ownsRow.cells hO.out (g := gv) rfl j (.int .i32 ((nl n p K).getD j 0)) (by simp [List.getD, hj])
            rw [Addr.add_lit] at hc
            exact hc
        subst eu
        have HO : Hid (Calls Tryz.prog 24 #[.int .i64 n, .slice (some ⟨gv, 0, none⟩) K cw] wr fun e w' => Below wr.heap.size wr w' ∧ RZoneOut w' wr.heap.size n e ((zoneR n r).map fun c => listOf c K)) := by
          have hl := nl_len n p K
          have := rof_main n gv 0 cw (nl n p K) wr hn (by rw [hl]; exact HM.out) hrow (fun j hj => by
            have e : (nl n p K).getD j 0 = narB (flat n p j) := by simp [nl, List.getD, show j < K by omega]
            rw [e]
            unfold narB
            split
            · omega
            · split <;> omega)
          rw [hl, allRight_nl n p K K (Nat.le_refl _), of_same n _ (by rw [hl]; exact HM.out) (fun j hj => by
            have e : (nl n p K).getD j 0 = narB (flat n p j) := by simp [nl, List.getD, show j < K by rw [HM.out]; exact hj]
            rw [e]
            unfold narB
            split
            · omega
            · split <;> omega), hl] at this
          have za := zone_again hn HM.out HR0.out H0.out EC.out hN.out
          rw [show tgAll n (nl n p K) K (startR n (n + 1) 0) = drf n K (nl n p K) from rfl, za] at this
          refine this.mono fun e w' h => ?_
          obtain ⟨h1, ⟨h2, -⟩ | ⟨-, h2⟩⟩ := h
          · cases h2
          · refine ⟨h1, ?_⟩
            have em : (n + 1) * (n + 1) = K := HM.out.symm
            rw [em] at h2
            exact h2
        go_wp2_with fail
        refine HO.out.mono ?_
        rintro e w3 ⟨hb3, ho⟩
        obtain ⟨p', k', rfl⟩ := ShutOut.form ⟨_, ho⟩
        have FIN : Hid (ShutOut w3 n K (.returned (.tuple #[.pointer p', .int .i64 k'])) r) := ⟨_, ho⟩
        have hBf := hideD (hB1.out.trans ((beyondD hB.out hb3).mono (by have := hB1.out.size; have := HG.out; omega)))
        clear ho hb3 HO
        go_wp2_with fail
        exact bodyPost_ret (v := .tuple #[.pointer p', .int .i64 k']) (by simp [results, Tryz.results39, go_sem]) rfl ⟨⟨_, _, rfl, FIN⟩, hBf⟩
end Go.Proofs.YtfhfdpapppgfpaaGreatDoor

/-
  What becomes of zones by both ways, in numbers: the cells of a zone, Up, Down.
-/
namespace Go.Proofs.YtfhfdpapppgfpaaGreatDoor
open Go.RowKit
set_option linter.unusedVariables false
/-- The closed form behind a zone's cells. -/
structure FullC (n m : Nat) (p : Mat) (c : Row) : Prop where
  cl : Cl n p
  low : ∀ j, j ≤ n → p 0 j ≤ 1
  nar : narAll n p m = true
  cells : c = cellsUpto n p m
def ZC (n m : Nat) (c : Row) : Prop := c = (fun _ => 0) ∨ ∃ p, FullC n m p c
theorem zc_of {n m : Nat} {r : Mat} {c : Row} (hn : n ≤ 8) (hm : m = (n + 1) * (n + 1)) (hr : Ok n r) (h0 : ∀ j, j ≤ n → r 0 j ≤ 1) (hz : zoneR n r = some c) : ZC n m c := by
  unfold zoneR at hz
  rw [← hm] at hz
  cases e : closeR n r with
  | none =>
    rw [e] at hz
    cases hz
    exact .inl rfl
  | some p =>
    rw [e] at hz
    have hz : (if narAll n p m = true then some (cellsUpto n p m) else none) = some c := hz
    split at hz
    · rename_i na
      cases hz
      have R := close_rounds hn hr.fin hr.diag e
      exact .inr ⟨p, R.cl hn, fun j hj => Int.le_trans (R.le 0 j (by omega) hj) (h0 j hj), na, rfl⟩
    · cases hz
theorem drf_low (n m : Nat) (l : List Int) (hm : m = (n + 1) * (n + 1)) (j : Nat) (hj : j ≤ n) : drf n m l 0 j ≤ 1 := by
  rw [drf_at n m l hm 0 j (by omega) hj]
  have : startV 0 j = 1 := by unfold startV; rw [if_neg (by omega)]
  rw [this]
  unfold tgV
  split <;> omega
theorem zc_drf {n m : Nat} {l : List Int} {c : Row} (hn : n ≤ 8) (hm : m = (n + 1) * (n + 1)) (hr : RightL m l) (hz : zoneR n (drf n m l) = some c) : ZC n m c :=
  zc_of hn hm (drf_ok n m l hm hr) (fun j hj => drf_low n m l hm j hj) hz
theorem FullC.ok {n m : Nat} {p : Mat} {c : Row} (h : FullC n m p c) (hm : m = (n + 1) * (n + 1)) {i j : Nat} (hi : i ≤ n) (hj : j ≤ n) : narOk (p i j) = true := by
  have := narAll_at h.nar (i * (n + 1) + j) (by rw [hm]; exact pos_lt hi hj)
  rwa [flat_at n p i j hj] at this
theorem FullC.at {n m : Nat} {p : Mat} {c : Row} (h : FullC n m p c) (hm : m = (n + 1) * (n + 1)) {i j : Nat} (hi : i ≤ n) (hj : j ≤ n) : c (i * (n + 1) + j) = narB (p i j) := by
  rw [h.cells]
  unfold cellsUpto
  rw [if_pos (by rw [hm]; exact pos_lt hi hj), flat_at n p i j hj]
theorem narOk_cases {q : Int} (h : narOk q = true) : (q = opn ∧ narB q = 2147483647) ∨ (¬ q = opn ∧ narB q = q ∧ -536870912 ≤ q ∧ q ≤ 536870913) := by
  by_cases e : q = opn
  · exact .inl ⟨e, by unfold narB; rw [if_pos e]⟩
  · have h' : ¬ (q < -536870912 ∨ 536870913 < q) := by unfold narOk at h; simpa [e] using h
    exact .inr ⟨e, by unfold narB; rw [if_neg e, if_neg h'], by omega, by omega⟩
theorem wide_nar {q : Int} (h : narOk q = true) : wideV (narB q) = q := by
  rcases narOk_cases h with ⟨h1, h2⟩ | ⟨h1, h2, h3, h4⟩
  · rw [h2, h1]; rfl
  · rw [h2]; unfold wideV; rw [if_neg (by omega)]
theorem FullC.le {n m : Nat} {p : Mat} {c : Row} (h : FullC n m p c) {i j : Nat} (hi : i ≤ n) (hj : j ≤ n) : p i j ≤ startV i j := by
  unfold startV
  have ho := opn_val
  split
  · have f := h.cl.fin i j hi hj
    unfold Fin' at f
    omega
  · by_cases i0 : i = 0
    · subst i0
      exact h.low j hj
    · obtain rfl : i = j := by omega
      have := h.cl.one i hi
      omega
theorem FullC.fin {n m : Nat} {p : Mat} {c : Row} (h : FullC n m p c) (hm : m = (n + 1) * (n + 1)) {i j : Nat} (hi : i ≤ n) (hj : j ≤ n) : Fin' 536870913 (p i j) := by
  rcases narOk_cases (h.ok hm hi hj) with ⟨h1, h2⟩ | ⟨h1, h2, h3, h4⟩
  · exact .inl h1
  · exact .inr ⟨by omega, by omega⟩
/-- The program's draft, closed in. -/
theorem pm_at (n m : Nat) (M : Mat) (hm : m = (n + 1) * (n + 1)) {i j : Nat} (hi : i ≤ n) (hj : j ≤ n) : drf n m (rowsL n M (n + 1)) i j = tgV (startV i j) (M i j) := by
  rw [drf_at n m _ hm i j hi hj, rowsL, listOf_get _ _ _ (pos_lt hi hj), flat_at n M i j hj]
def RightM (n : Nat) (M : Mat) : Prop := ∀ i j, i ≤ n → j ≤ n → M i j = 2147483647 ∨ (-536870912 ≤ M i j ∧ M i j ≤ 536870913)
theorem right_rows {n m : Nat} {M : Mat} (hm : m = (n + 1) * (n + 1)) (h : RightM n M) : RightL m (rowsL n M (n + 1)) := fun k hk => by
  rw [rowsL, listOf_get _ _ _ (by rw [← hm]; exact hk)]
  unfold flat
  rw [hm] at hk
  exact h _ _ (by have := Nat.div_lt_of_lt_mul hk; omega) (by have := Nat.mod_lt k (show 0 < n + 1 by omega); omega)
theorem allRight_rows {n m : Nat} {M : Mat} (hm : m = (n + 1) * (n + 1)) (h : RightM n M) : allRight (rowsL n M (n + 1)) m = true := by
  have : ∀ k, k ≤ m → allRight (rowsL n M (n + 1)) k = true := by
    intro k
    induction k with
    | zero => intro _; rfl
    | succ k ih =>
      intro hk
      simp only [allRight, ih (by omega), Bool.true_and]
      exact decide_eq_true (right_rows hm h k (by omega))
  exact this m (Nat.le_refl _)
theorem FullC.rightM {n m : Nat} {p : Mat} {c : Row} (h : FullC n m p c) (hm : m = (n + 1) * (n + 1)) : RightM n (oR n c m) := fun i j hi hj => by
  have e : oR n c m i j = narB (p i j) := by unfold oR; rw [if_pos ⟨hj, by rw [hm]; exact pos_lt hi hj⟩, h.at hm hi hj]
  rw [e]
  rcases narOk_cases (h.ok hm hi hj) with ⟨h1, h2⟩ | ⟨h1, h2, h3, h4⟩
  · exact .inl h2
  · exact .inr (by rw [h2]; omega)
theorem FullC.oR {n m : Nat} {p : Mat} {c : Row} (h : FullC n m p c) (hm : m = (n + 1) * (n + 1)) {i j : Nat} (hi : i ≤ n) (hj : j ≤ n) : Go.Proofs.YtfhfdpapppgfpaaGreatDoor.oR n c m i j = narB (p i j) := by
  unfold Go.Proofs.YtfhfdpapppgfpaaGreatDoor.oR
  rw [if_pos ⟨hj, by rw [hm]; exact pos_lt hi hj⟩, h.at hm hi hj]
theorem FullC.pm {n m : Nat} {p : Mat} {c : Row} (h : FullC n m p c) (hm : m = (n + 1) * (n + 1)) {i j : Nat} (hi : i ≤ n) (hj : j ≤ n) : tgV (startV i j) (Go.Proofs.YtfhfdpapppgfpaaGreatDoor.oR n c m i j) = p i j := by
  rw [h.oR hm hi hj]
  exact tgV_narr (by unfold startV; split; exact .inl rfl; exact .inr rfl) (h.le hi hj) (h.ok hm hi hj)
theorem FullC.rowMat {n m : Nat} {p : Mat} {c : Row} (h : FullC n m p c) (hm : m = (n + 1) * (n + 1)) {i j : Nat} (hi : i ≤ n) (hj : j ≤ n) : Go.Proofs.YtfhfdpapppgfpaaGreatDoor.rowMat n (listOf c m) i j = p i j := by
  unfold Go.Proofs.YtfhfdpapppgfpaaGreatDoor.rowMat
  rw [if_pos ⟨hi, hj⟩, listOf_get _ _ _ (by rw [hm]; exact pos_lt hi hj), h.at hm hi hj, wide_nar (h.ok hm hi hj)]
theorem FullC.zero {n m : Nat} {p : Mat} {c : Row} (h : FullC n m p c) (hm : m = (n + 1) * (n + 1)) : c 0 = 1 := by
  have := h.at hm (i := 0) (j := 0) (by omega) (by omega)
  rw [h.cl.one 0 (by omega), show narB 1 = 1 by decide] at this
  simpa using this
theorem zone_hollow {n : Nat} {r : Mat} (h : r 0 0 < 1) : zoneR n r = some (fun _ => 0) := by
  have hd : diagOk n r (n + 1) = false := diagOk_false (c := 1) (n + 1) (by omega) (by simp [diagOk]; omega)
  unfold zoneR closeR
  rw [hd]
  rfl
theorem pm_hollow {n m : Nat} {M : Mat} (hm : m = (n + 1) * (n + 1)) (h : M 0 0 = 0) : zoneR n (drf n m (rowsL n M (n + 1))) = some (fun _ => 0) := by
  refine zone_hollow ?_
  rw [pm_at n m M hm (by omega) (by omega), h]
  decide
theorem ok_of {n : Nat} {r : Mat} (h : ∀ i j, i ≤ n → j ≤ n → Fin' 1073741824 (r i j)) (hd : ∀ i, i ≤ n → r i i ≤ 1) : Ok n r := ⟨h, hd⟩
theorem F_fin {x : Int} (h : Fin' 536870913 x) : Fin' 1073741824 x := h.mono (by omega)
/-! ### Up -/
def upRef (K : Nat) (r : Mat) : Mat := fun i j => if j = 0 ∧ 1 ≤ i ∧ i < K then opn else r i j
theorem up_same {n m : Nat} {p : Mat} {c : Row} (hn : n ≤ 8) (hm : m = (n + 1) * (n + 1)) (h : FullC n m p c) :
    RightM n (upM (n + 1) (oR n c m)) ∧ Ok n (upRef (n + 1) (rowMat n (listOf c m))) ∧ (∀ j, j ≤ n → upRef (n + 1) (rowMat n (listOf c m)) 0 j ≤ 1) ∧ zoneR n (drf n m (rowsL n (upM (n + 1) (oR n c m)) (n + 1))) = zoneR n (upRef (n + 1) (rowMat n (listOf c m))) := by
  have hR : RightM n (upM (n + 1) (oR n c m)) := fun i j hi hj => by
    unfold upM
    split
    · exact .inl rfl
    · exact h.rightM hm i j hi hj
  have hO : Ok n (upRef (n + 1) (rowMat n (listOf c m))) := by
    refine ok_of (fun i j hi hj => ?_) (fun i hi => ?_)
    · unfold upRef
      split
      · exact .inl rfl
      · rw [h.rowMat hm hi hj]; exact F_fin (h.fin hm hi hj)
    · unfold upRef
      rw [if_neg (by omega), h.rowMat hm hi hi]
      have := h.cl.one i hi
      omega
  refine ⟨hR, hO, fun j hj => ?_, ?_⟩
  · unfold upRef
    rw [if_neg (by omega), h.rowMat hm (by omega) hj]
    exact h.low j hj
  · have e : ∀ i j, i ≤ n → j ≤ n → drf n m (rowsL n (upM (n + 1) (oR n c m)) (n + 1)) i j = upRef (n + 1) (rowMat n (listOf c m)) i j := fun i j hi hj => by
      rw [pm_at n m _ hm hi hj]
      unfold upM upRef
      split
      · rename_i q
        have : startV i j = opn := by unfold startV; rw [if_pos (by omega)]; rfl
        rw [this]
        rfl
      · rw [h.pm hm hi hj, h.rowMat hm hi hj]
    refine zone_same hn (drf_ok n m _ hm (right_rows hm hR)) hO fun q hq => ⟨fun hl i j hi hj => ?_, fun hl i j hi hj => ?_⟩
    · rw [← e i j hi hj]; exact hl i j hi hj
    · rw [e i j hi hj]; exact hl i j hi hj
/-! ### Down -/
def dnV (r : Mat) (b : Nat) : Nat → Int
  | 0 => 1
  | J + 1 => if r (J + 1) b < dnV r b J then r (J + 1) b else dnV r b J
def dnRef (n K : Nat) (r : Mat) : Mat := fun i j => if i = 0 ∧ 1 ≤ j ∧ j < K then dnV r j n else r i j
theorem le_dnV (r : Mat) (b : Nat) (x : Int) : ∀ J, x ≤ dnV r b J ↔ (x ≤ 1 ∧ ∀ j, 1 ≤ j → j ≤ J → x ≤ r j b)
  | 0 => by
    simp [dnV]
    intro _ j h1 h2
    omega
  | J + 1 => by
    have ih := le_dnV r b x J
    have e : x ≤ dnV r b (J + 1) ↔ (x ≤ dnV r b J ∧ x ≤ r (J + 1) b) := by
      rw [show dnV r b (J + 1) = if r (J + 1) b < dnV r b J then r (J + 1) b else dnV r b J from rfl]
      split <;> omega
    rw [e, ih]
    constructor
    · rintro ⟨⟨h1, h2⟩, h3⟩
      refine ⟨h1, fun j j1 j2 => ?_⟩
      by_cases q : j = J + 1
      · subst q; exact h3
      · exact h2 j j1 (by omega)
    · rintro ⟨h1, h2⟩
      exact ⟨⟨h1, fun j j1 j2 => h2 j j1 (by omega)⟩, h2 (J + 1) (by omega) (by omega)⟩
theorem dnV_fin {r : Mat} {b : Nat} {K : Int} (hK : 1 ≤ K) : ∀ J, (∀ j, 1 ≤ j → j ≤ J → Fin' K (r j b)) → Fin' K (dnV r b J)
  | 0, _ => .inr ⟨by simp [dnV]; omega, by simp [dnV]; omega⟩
  | J + 1, h => by
    unfold dnV
    split
    · exact h (J + 1) (by omega) (by omega)
    · exact dnV_fin hK J fun j j1 j2 => h j j1 (by omega)
theorem dnV_congr {r s : Mat} {b : Nat} : ∀ J, (∀ j, 1 ≤ j → j ≤ J → r j b = s j b) → dnV r b J = dnV s b J
  | 0, _ => rfl
  | J + 1, h => by
    unfold dnV
    rw [dnV_congr J fun j j1 j2 => h j j1 (by omega), h (J + 1) (by omega) (by omega)]
theorem down_same {n m : Nat} {p : Mat} {c : Row} (hn : n ≤ 8) (hm : m = (n + 1) * (n + 1)) (h : FullC n m p c) :
    RightM n (downM (n + 1) (oR n c m)) ∧ Ok n (dnRef n (n + 1) (rowMat n (listOf c m))) ∧ (∀ j, j ≤ n → dnRef n (n + 1) (rowMat n (listOf c m)) 0 j ≤ 1) ∧ zoneR n (drf n m (rowsL n (downM (n + 1) (oR n c m)) (n + 1))) = zoneR n (dnRef n (n + 1) (rowMat n (listOf c m))) := by
  have hR : RightM n (downM (n + 1) (oR n c m)) := fun i j hi hj => by
    unfold downM
    split
    · exact .inr (by omega)
    · exact h.rightM hm i j hi hj
  have dn1 : ∀ (r : Mat) b J, dnV r b J ≤ 1 := fun r b J => ((le_dnV r b (dnV r b J) J).1 (Int.le_refl _)).1
  have hO : Ok n (dnRef n (n + 1) (rowMat n (listOf c m))) := by
    refine ok_of (fun i j hi hj => ?_) (fun i hi => ?_)
    · unfold dnRef
      split
      · exact dnV_fin (by omega) n fun k k1 k2 => by rw [h.rowMat hm k2 hj]; exact F_fin (h.fin hm k2 hj)
      · rw [h.rowMat hm hi hj]; exact F_fin (h.fin hm hi hj)
    · unfold dnRef
      rw [if_neg (by omega), h.rowMat hm hi hi]
      have := h.cl.one i hi
      omega
  refine ⟨hR, hO, fun j hj => ?_, ?_⟩
  · unfold dnRef
    split
    · exact dn1 _ _ _
    · rw [h.rowMat hm (by omega) hj]; exact h.low j hj
  · have e1 : ∀ i j, i ≤ n → j ≤ n → drf n m (rowsL n (downM (n + 1) (oR n c m)) (n + 1)) i j = if i = 0 ∧ 1 ≤ j then 1 else p i j := fun i j hi hj => by
      rw [pm_at n m _ hm hi hj]
      unfold downM
      by_cases q : i = 0 ∧ 1 ≤ j
      · rw [if_pos ⟨q.1, q.2, by omega⟩, if_pos q]
        have : startV i j = 1 := by unfold startV; rw [if_neg (by omega)]
        rw [this]
        rfl
      · rw [if_neg (by omega), if_neg q, h.pm hm hi hj]
    have e2 : ∀ i j, i ≤ n → j ≤ n → dnRef n (n + 1) (rowMat n (listOf c m)) i j = if i = 0 ∧ 1 ≤ j then dnV p j n else p i j := fun i j hi hj => by
      unfold dnRef
      by_cases q : i = 0 ∧ 1 ≤ j
      · rw [if_pos ⟨q.1, q.2, by omega⟩, if_pos q]
        exact dnV_congr n fun k k1 k2 => h.rowMat hm k2 hj
      · rw [if_neg (by omega), if_neg q, h.rowMat hm hi hj]
    refine zone_same hn (drf_ok n m _ hm (right_rows hm hR)) hO fun q hq => ⟨fun hl i j hi hj => ?_, fun hl i j hi hj => ?_⟩
    · rw [e2 i j hi hj]
      split
      · rename_i z
        obtain ⟨rfl, j1⟩ := z
        have l0 : ∀ k, 1 ≤ k → k ≤ n → q 0 k ≤ 1 := fun k k1 k2 => by
          have := hl 0 k (by omega) k2
          rw [e1 0 k (by omega) k2, if_pos ⟨rfl, k1⟩] at this
          exact this
        refine (le_dnV p j _ n).2 ⟨l0 j j1 hj, fun k k1 k2 => ?_⟩
        have t := hq.tri k (by omega) 0 j (by omega) hj
        have lk := hl k j k2 hj
        rw [e1 k j k2 hj, if_neg (by omega)] at lk
        have f1 : F (q 0 k) := (hq.fin 0 k (by omega) k2).mono (by decide)
        have f2 : F (q k j) := (hq.fin k j k2 hj).mono (by decide)
        have f3 : F (p k j) := (h.cl.fin k j k2 hj).mono (by decide)
        have f4 : F (1 : Int) := .inr ⟨by decide, by decide⟩
        have m1 := pl_mono f1 f2 f4 f3 (l0 k k1 k2) lk
        rw [one_pl f3] at m1
        omega
      · rename_i z
        have := hl i j hi hj
        rw [e1 i j hi hj, if_neg z] at this
        exact this
    · have l := hl i j hi hj
      rw [e2 i j hi hj] at l
      rw [e1 i j hi hj]
      split
      · rename_i z
        rw [if_pos z] at l
        exact Int.le_trans l (dn1 _ _ _)
      · rename_i z
        rw [if_neg z] at l
        exact l
end Go.Proofs.YtfhfdpapppgfpaaGreatDoor

/-
  The document's Up and Down.
-/
namespace Go.Proofs.YtfhfdpapppgfpaaGreatDoor
open Go.RowKit
set_option linter.unusedVariables false
set_option maxRecDepth 100000
/-- What the document tells of a zone: none: ErrBound. -/
def RefOut (w' : World) (n m : Nat) (e : Ending) (o : Option Row) : Prop := ∃ B, RZoneOut w' B n e (o.map fun c => listOf c m)
theorem upRef_next (K : Nat) (hK : 1 ≤ K) (r : Mat) : upd (upRef K r) K 0 opn = upRef (K + 1) r := by
  funext a c
  unfold upd upRef
  by_cases e : a = K ∧ c = 0
  · rw [if_pos e, if_pos (by omega)]
  · rw [if_neg e]
    congr 1
    apply propext
    omega
theorem upRef_one (r : Mat) : upRef 1 r = r := by
  funext a c
  unfold upRef
  rw [if_neg (by omega)]
theorem rempty_is {w : World} {B r n m : Nat} {c : Row} (h : RZone w B r n (listOf c m)) (hm : 0 < m) :
    Calls Tryz.prog 32 #[.pointer (some ⟨r, 0, none⟩)] w fun e w' => e = .returned (.bool (c 0 != 1)) ∧ w' = w := by
  have := rempty_any h (by rw [listOf_len]; exact hm)
  rw [listOf_get c m 0 hm] at this
  exact this
theorem dnRef_next (n K : Nat) (hK : 1 ≤ K) (r : Mat) : upd (dnRef n K r) 0 K (dnV r K n) = dnRef n (K + 1) r := by
  funext a c
  unfold upd dnRef
  by_cases e : a = 0 ∧ c = K
  · obtain ⟨rfl, rfl⟩ := e
    rw [if_pos ⟨rfl, rfl⟩, if_pos (by omega)]
  · rw [if_neg e]
    congr 1
    apply propext
    omega
theorem dnRef_one (n : Nat) (r : Mat) : dnRef n 1 r = r := by
  funext a c
  unfold dnRef
  rw [if_neg (by omega)]
theorem upd_twice (r : Mat) (i j : Nat) (x y : Int) : upd (upd r i j x) i j y = upd r i j y := by
  funext a c
  unfold upd
  split <;> rfl
theorem dn_less (n K J : Nat) (r : Mat) (hJ : 1 ≤ J + 1) : lessM (upd (dnRef n K r) 0 K (dnV r K J)) 0 K (upd (dnRef n K r) 0 K (dnV r K J) (J + 1) K) = upd (dnRef n K r) 0 K (dnV r K (J + 1)) := by
  have e1 : upd (dnRef n K r) 0 K (dnV r K J) (J + 1) K = r (J + 1) K := by
    unfold upd dnRef
    rw [if_neg (by omega), if_neg (by omega)]
  have e2 : upd (dnRef n K r) 0 K (dnV r K J) 0 K = dnV r K J := by
    unfold upd
    rw [if_pos ⟨rfl, rfl⟩]
  unfold lessM
  rw [e1, e2, show dnV r K (J + 1) = if r (J + 1) K < dnV r K J then r (J + 1) K else dnV r K J from rfl]
  split
  · rw [upd_twice]
  · rfl
end Go.Proofs.YtfhfdpapppgfpaaGreatDoor

/-
  Zones by both ways: what each tells, and that they are the same (both, same of the statements of ops).
-/
namespace Go.Proofs.YtfhfdpapppgfpaaGreatDoor
open Go.RowKit
set_option linter.unusedVariables false
set_option maxRecDepth 100000
/-- A zone that is there, or none: its clocks and cells. -/
abbrev OZ := Option (Nat × Row)
def PZ (w : World) (p : Option Addr) : OZ → Prop
  | none => p = none
  | some (n, c) => n ≤ 8 ∧ C32 c ∧ ∃ b, p = some ⟨b, 0, none⟩ ∧ ZoneAt w b n c
def RZ (w : World) (p : Option Addr) : OZ → Prop
  | none => p = none
  | some (n, c) => n ≤ 8 ∧ ∃ r B, p = some ⟨r, 0, none⟩ ∧ RZone w B r n (listOf c ((n + 1) * (n + 1)))
def ZCo (o : OZ) : Prop := ∀ n c, o = some (n, c) → ZC n ((n + 1) * (n + 1)) c
theorem PZ.past {w w' : World} {p : Option Addr} {o : OZ} (h : PZ w p o) (hb : Below w.heap.size w w') : PZ w' p o := by
  cases o with
  | none => exact h
  | some x =>
    obtain ⟨h1, h2, b, h3, h4⟩ := h
    exact ⟨h1, h2, b, h3, h4.past hb⟩
theorem RZ.past {w w' : World} {p : Option Addr} {o : OZ} (h : RZ w p o) (hb : Below w.heap.size w w') : RZ w' p o := by
  cases o with
  | none => exact h
  | some x =>
    obtain ⟨h1, r, B, h3, h4⟩ := h
    exact ⟨h1, r, B, h3, h4.past hb⟩
def SayP (w : World) (f : Nat) (args : Array Value) (k : Int) (o : OZ) : Prop := ∀ w', Below w.heap.size w w' → Calls Tryz.prog f args w' fun e w'' => (∃ p, e = .returned (.tuple #[.pointer p, .int .i64 k]) ∧ Hid (PZ w'' p o)) ∧ Hid (Below w'.heap.size w' w'')
def SayR (w : World) (f : Nat) (args : Array Value) (k : Int) (o : OZ) : Prop := ∀ w', Below w.heap.size w w' → Calls Tryz.prog f args w' fun e w'' => (∃ p, e = .returned (.tuple #[.pointer p, .int .i64 k]) ∧ Hid (RZ w'' p o)) ∧ Hid (Below w'.heap.size w' w'')
def Two (w : World) (fp : Nat) (ap : Array Value) (fr : Nat) (ar : Array Value) : Prop := ∃ k o, SayP w fp ap k o ∧ SayR w fr ar k o ∧ ZCo o
theorem Two.past {w w' : World} {fp fr : Nat} {ap ar : Array Value} (h : Two w fp ap fr ar) (hb : Below w.heap.size w w') : Two w' fp ap fr ar := by
  obtain ⟨k, o, h1, h2, h3⟩ := h
  exact ⟨k, o, fun v hv => h1 v (beyondD hb hv), fun v hv => h2 v (beyondD hb hv), h3⟩
theorem zco_none : ZCo none := fun n c h => by cases h
/-- Both tell an error. -/
theorem two_err {w : World} {fp fr : Nat} {ap ar : Array Value} (k : Int) (h1 : ∀ w', Below w.heap.size w w' → Calls Tryz.prog fp ap w' fun e w'' => e = errOf k ∧ Below w'.heap.size w' w'') (h2 : ∀ w', Below w.heap.size w w' → Calls Tryz.prog fr ar w' fun e w'' => e = errOf k ∧ Below w'.heap.size w' w'') : Two w fp ap fr ar :=
  ⟨k, none, fun w' hb => (h1 w' hb).mono fun e w'' ⟨he, hb'⟩ => ⟨⟨none, he, rfl⟩, hb'⟩, fun w' hb => (h2 w' hb).mono fun e w'' ⟨he, hb'⟩ => ⟨⟨none, he, rfl⟩, hb'⟩, zco_none⟩
theorem same_w {f : Nat} {args : Array Value} {k : Int} {w : World} (h : Calls Tryz.prog f args w fun e w' => e = errOf k ∧ w' = w) : Calls Tryz.prog f args w fun e w' => e = errOf k ∧ Below w.heap.size w w' := h.mono fun e w' ⟨h1, h2⟩ => ⟨h1, by rw [h2]; exact Below.refl _ _⟩
/-- Both tell what one matrix makes. -/
theorem two_zone {w : World} {fp fr : Nat} {ap ar : Array Value} {n m : Nat} {M : Mat} {o : Option Row} (hn : n ≤ 8) (hm : m = (n + 1) * (n + 1)) (hR : RightM n M) (ho : zoneR n (drf n m (rowsL n M (n + 1))) = o)
    (h1 : ∀ w', Below w.heap.size w w' → Calls Tryz.prog fp ap w' fun e w'' => OpsOut w'' w'.heap.size n e M ∧ Below w'.heap.size w' w'') (h2 : ∀ w', Below w.heap.size w w' → Calls Tryz.prog fr ar w' fun e w'' => RefOut w'' n m e o ∧ Below w'.heap.size w' w'') : Two w fp ap fr ar := by
  have hz : ∀ {w'' B e}, OpsOut w'' B n e M → ZoneOut w'' B n e o := fun {w'' B e} h => by
    rcases h with ⟨h3, -⟩ | ⟨-, h3⟩
    · rw [← hm, allRight_rows hm hR] at h3
      cases h3
    · rw [← hm] at h3
      rw [← ho]
      exact h3
  cases o with
  | none =>
    refine ⟨10, none, fun w' hb => (h1 w' hb).mono fun e w'' ⟨h3, hb'⟩ => ?_, fun w' hb => (h2 w' hb).mono fun e w'' ⟨h3, hb'⟩ => ?_, zco_none⟩
    · exact ⟨⟨none, hz h3, rfl⟩, hb'⟩
    · obtain ⟨B, h3⟩ := h3
      exact ⟨⟨none, h3, rfl⟩, hb'⟩
  | some c =>
    refine ⟨0, some (n, c), fun w' hb => (h1 w' hb).mono fun e w'' ⟨h3, hb'⟩ => ?_, fun w' hb => (h2 w' hb).mono fun e w'' ⟨h3, hb'⟩ => ?_, fun n' c' h => ?_⟩
    · obtain ⟨b, -, h4, h5⟩ := hz h3
      exact ⟨⟨_, h4, hn, zoneR_32 ho, b, rfl, h5⟩, hb'⟩
    · obtain ⟨B, b, h4, h5⟩ := h3
      rw [hm] at h5
      exact ⟨⟨_, h4, hn, b, B, rfl, h5⟩, hb'⟩
    · cases h
      rw [← hm]
      exact zc_drf hn hm (right_rows hm hR) ho
theorem right0 : (0 : Int) = 2147483647 ∨ (-536870912 ≤ (0 : Int) ∧ (0 : Int) ≤ 536870913) := .inr (by omega)
theorem oR_zero {n m : Nat} : oR n (fun _ => 0) m = fun _ _ => 0 := by
  funext i j
  unfold oR
  split <;> rfl
/-! ### same, both -/
set_option maxHeartbeats 1000000 in
theorem sameB_true (g1 g2 c1 c2 n : Nat) (l : List Int) (w : World) (h1 : RowAt w g1 0 l) (h2 : RowAt w g2 0 l) (hl : l.length = n) (hn : n ≤ 81) :
    Calls Tryz.prog 41 #[.slice (some ⟨g1, 0, none⟩) n c1, .slice (some ⟨g2, 0, none⟩) n c2] w fun e w' => e = .returned (.bool true) ∧ ∃ k, w' = w.drewN k := by
  have H1 : Hid (∀ j, j < n → w.cell? ⟨g1, j, none⟩ = some (.int .i32 (l.getD j 0))) := fun j hj => by have := h1 j (by omega); simpa using this
  have H2 : Hid (∀ j, j < n → w.cell? ⟨g2, j, none⟩ = some (.int .i32 (l.getD j 0))) := fun j hj => by have := h2 j (by omega); simpa using this
  clear h1 h2 hl
  go_enter Tryz.func41, Tryz.ntmps41
  go_wp2_with fail
  go_loopw [5] (fun s wr => ∃ (I k : Nat), I ≤ n ∧ s = .int .i64 (I : Int) ∧ wr = w.drewN k) (fun s _ => n - (intOf s).toNat)
  case atStart => exact ⟨0, 0, by omega, rfl, rfl⟩
  case round =>
    obtain ⟨I, k, hI, rfl, rfl⟩ := hrel
    by_cases ci : I < n
    · have a1 := H1.out I ci
      have a2 := H2.out I ci
      have i0 : (0 : Int) ≤ (I : Int) := by omega
      have i1 : (I : Int) < (n : Int) := by omega
      generalize l.getD I 0 = x at *
      go_wp2_with fail
      go_quiet (fail)
      go_wp2_with fail
      go_roundw
      case rel => exact ⟨I + 1, _, by omega, by go_num, rfl⟩
      case measure => simp [intOf]; omega
    · have eI : I = n := by omega
      subst eI
      go_wp2_with fail
      go_ret
      exact ⟨rfl, _, rfl⟩
theorem same_any {w : World} {p q : Option Addr} {o : OZ} (h1 : PZ w p o) (h2 : RZ w q o) :
    Calls Tryz.prog 9 #[.pointer p, .pointer q] w fun e w' => e = .returned (.bool true) ∧ Below w.heap.size w w' := by
  cases o with
  | none =>
    obtain rfl := h1
    obtain rfl := h2
    go_enter Tryz.func9, Tryz.ntmps9
    go_wp2_with fail
    go_ret
    exact ⟨rfl, Below.refl _ _⟩
  | some x =>
    obtain ⟨n, c⟩ := x
    obtain ⟨hn, h32, b, rfl, hZ⟩ := h1
    obtain ⟨-, r, B, rfl, hR⟩ := h2
    have m81 : (n + 1) * (n + 1) ≤ 81 := Nat.mul_le_mul (show n + 1 ≤ 9 by omega) (show n + 1 ≤ 9 by omega)
    have mp : 0 < (n + 1) * (n + 1) := Nat.mul_pos (by omega) (by omega)
    have H1 := hideD (dimZ_any b n w hZ.clocks)
    have H2 := hideD (rdim_any hR)
    have H3 := hideD (cells_any b n c w hZ hn)
    obtain ⟨g0, cap0, r0, r1, r2, r3, r4⟩ := hR
    rw [listOf_len] at r1
    have H4 : Hid (∀ w', Below w.heap.size w w' → _) := fun w' hb => rcells_own r g0 n cap0 _ (listOf c ((n + 1) * (n + 1))) w' (listOf_len _ _) m81 mp (kc _ _ hb r1) (r4.later hb (World.block_lt_of_cell? _ _ (r4 0 (by rw [listOf_len]; exact mp))))
    have HL := listOf_len c ((n + 1) * (n + 1))
    have H5 : Hid (∀ g1 g2 c1 c2 w', RowAt w' g1 0 (listOf c ((n + 1) * (n + 1))) → RowAt w' g2 0 (listOf c ((n + 1) * (n + 1))) → _) := fun g1 g2 c1 c2 w' ha hb => sameB_true g1 g2 c1 c2 _ (listOf c ((n + 1) * (n + 1))) w' ha hb HL m81
    generalize (n + 1) * (n + 1) = m at *
    clear hZ r0 r1 r2 r3 r4
    go_enter Tryz.func9, Tryz.ntmps9
    go_wp2_with fail
    refine H1.out.mono ?_
    rintro e w1 ⟨rfl, rfl⟩
    go_wp2_with fail
    refine H2.out.mono ?_
    rintro e w1 ⟨rfl, rfl⟩
    go_wp2_with fail
    refine H3.out.mono ?_
    rintro e w2 ⟨⟨v, rfl, g1, cap1, rfl, hg, hgl, hrow⟩, hb⟩
    rw [HL]
    have B2 := hideD hb
    have HR := hideD hrow
    have hgl' := hideD hgl
    clear hb hrow H1 H2 H3
    go_wp2_with fail
    refine (H4.out _ B2.out).mono ?_
    rintro e w3 ⟨⟨g2, cap2, rfl, hg2, hgl2, hrow2, -⟩, hb3⟩
    have B3 := hideD (beyondD B2.out hb3)
    have H6 := hideD (H5.out g1 g2 cap1 cap2 w3 (HR.out.later hb3 hgl'.out) hrow2)
    clear hb3 hrow2 H4 H5 B2 HR
    go_wp2_with fail
    refine H6.out.mono ?_
    rintro e w4 ⟨rfl, k, rfl⟩
    go_wp2_with fail
    go_ret
    exact ⟨rfl, below_drewN B3.out k⟩
theorem right_of_all {l : List Int} {m : Nat} (h : allRight l m = true) : RightL m l := fun k hk => by
  have : ∀ m, allRight l m = true → ∀ k, k < m → rightB (l.getD k 0) = true := by
    intro m
    induction m with
    | zero => intro _ k hk; omega
    | succ m ih =>
      intro h k hk
      simp only [allRight, Bool.and_eq_true] at h
      by_cases q : k = m
      · subst q; exact h.2
      · exact ih h.1 k (by omega)
  exact of_decide_eq_true (this m h k hk)
/-- Of by both. -/
theorem two_of (n : Int) (v : Value) (l : List Int) (w : World) (hS : SliceAt w v l) (hi : ∀ j, j < l.length → -2147483648 ≤ l.getD j 0 ∧ l.getD j 0 ≤ 2147483647) (hby : l.length ≤ 9223372036854775807) :
    ∃ k o, SayP w 23 #[.int .i64 n, v] k o ∧ SayR w 24 #[.int .i64 n, v] k o ∧ ZCo o ∧ ∀ N c, o = some (N, c) → n = (N : Int) := by
  have err : ∀ k, (∀ w', Below w.heap.size w w' → Calls Tryz.prog 23 #[.int .i64 n, v] w' fun x w'' => x = errOf k ∧ Below w'.heap.size w' w'') → (∀ w', Below w.heap.size w w' → Calls Tryz.prog 24 #[.int .i64 n, v] w' fun x w'' => x = errOf k ∧ Below w'.heap.size w' w'') →
      ∃ k o, SayP w 23 #[.int .i64 n, v] k o ∧ SayR w 24 #[.int .i64 n, v] k o ∧ ZCo o ∧ ∀ N c, o = some (N, c) → n = (N : Int) := fun k h1 h2 =>
    ⟨k, none, fun w' hb => (h1 w' hb).mono fun e w'' ⟨he, hb'⟩ => ⟨⟨none, he, rfl⟩, hb'⟩, fun w' hb => (h2 w' hb).mono fun e w'' ⟨he, hb'⟩ => ⟨⟨none, he, rfl⟩, hb'⟩, zco_none, fun N c h => by cases h⟩
  by_cases hn : 0 ≤ n ∧ n ≤ 8
  · obtain ⟨N, rfl⟩ := Int.eq_ofNat_of_zero_le hn.1
    have N8 : N ≤ 8 := by omega
    have mp : 0 < (N + 1) * (N + 1) := Nat.mul_pos (by omega) (by omega)
    by_cases hl : l.length = (N + 1) * (N + 1)
    · rcases hS with ⟨ad, c, rfl, rfl⟩ | ⟨cb, off, cap, rfl, hc⟩
      · exfalso
        simp at hl
      · have hcb : cb < w.heap.size := World.block_lt_of_cell? _ _ (hc 0 (by omega))
        have row : ∀ w', Below w.heap.size w w' → RowAt w' cb off l := fun w' hb j hj => (hb.cell (p := ⟨cb, off + j, none⟩) hcb).trans (hc j hj)
        have P := fun w' hb => of_main N cb off cap l w' N8 hl (row w' hb) hi
        have R := fun w' hb => rof_main N cb off cap l w' N8 hl (row w' hb) hi
        cases ha : allRight l l.length
        · refine err 7 (fun w' hb => (P w' hb).mono fun x w'' h => ?_) (fun w' hb => (R w' hb).mono fun x w'' h => ?_)
          · obtain ⟨h1, ⟨-, h2⟩ | ⟨h2, -⟩⟩ := h
            · exact ⟨h2, h1⟩
            · rw [ha] at h2; cases h2
          · obtain ⟨h1, ⟨-, h2⟩ | ⟨h2, -⟩⟩ := h
            · exact ⟨h2, h1⟩
            · rw [ha] at h2; cases h2
        · have os := of_same N l hl (fun j hj => (hi j (by omega)).2)
          cases hz : zoneR N (tgAll N l l.length (startR N (N + 1) 0)) with
          | none =>
            rw [hz] at os
            refine err 10 (fun w' hb => (P w' hb).mono fun x w'' h => ?_) (fun w' hb => (R w' hb).mono fun x w'' h => ?_)
            · obtain ⟨h1, ⟨h2, -⟩ | ⟨-, h2⟩⟩ := h
              · rw [ha] at h2; cases h2
              · rw [hz] at h2; exact ⟨h2, h1⟩
            · obtain ⟨h1, ⟨h2, -⟩ | ⟨-, h2⟩⟩ := h
              · rw [ha] at h2; cases h2
              · rw [os] at h2; exact ⟨h2, h1⟩
          | some c =>
            rw [hz] at os
            refine ⟨0, some (N, c), fun w' hb => (P w' hb).mono fun x w'' h => ?_, fun w' hb => (R w' hb).mono fun x w'' h => ?_, fun N' c' h => ?_, fun N' c' h => ?_⟩
            · obtain ⟨h1, ⟨h2, -⟩ | ⟨-, h2⟩⟩ := h
              · rw [ha] at h2; cases h2
              · rw [hz] at h2
                obtain ⟨b, -, h3, h4⟩ := h2
                exact ⟨⟨_, h3, N8, zoneR_32 hz, b, rfl, h4⟩, h1⟩
            · obtain ⟨h1, ⟨h2, -⟩ | ⟨-, h2⟩⟩ := h
              · rw [ha] at h2; cases h2
              · rw [os] at h2
                obtain ⟨b, h3, h4⟩ := h2
                exact ⟨⟨_, h3, N8, b, _, rfl, h4⟩, h1⟩
            · cases h
              rw [hl] at hz ha
              exact zc_drf N8 rfl (right_of_all ha) hz
            · cases h
              rfl
    · obtain ⟨ad, cap, rfl⟩ : ∃ ad cap, v = .slice ad l.length cap := by
        rcases hS with ⟨ad, c, rfl, rfl⟩ | ⟨cb, off, cap, rfl, hc⟩
        · exact ⟨ad, c, rfl⟩
        · exact ⟨_, cap, rfl⟩
      exact err 6 (fun w' hb => of_long N l.length cap ad w' N8 hl hby) (fun w' hb => same_w (rof_long N l.length cap _ ad w' N8 rfl hl))
  · exact err 12 (fun w' hb => same_w (of_clock n v w' hn)) (fun w' hb => same_w (rof_clock n v w' hn))
end Go.Proofs.YtfhfdpapppgfpaaGreatDoor
