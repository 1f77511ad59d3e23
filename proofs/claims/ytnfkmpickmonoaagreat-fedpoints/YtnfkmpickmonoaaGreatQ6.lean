/-
  The document's answer for layer 3: the closed form of wide cells.
-/
import Derived.Test.YtnfkmpickmonoaaGreatQ5
namespace Go.Proofs.YtnfkmpickmonoaaGreat
open Go.RowKit
set_option linter.unusedVariables false
set_option maxRecDepth 100000
/-- A matrix of wide cells in a row of memory. -/
structure MatAt (w : World) (g n : Nat) (r : Mat) : Prop where
  cell : ∀ i j, i ≤ n → j ≤ n → w.cell? ⟨g, i * (n + 1) + j, none⟩ = some (.int .i64 (r i j))
  free : ∀ i j, i ≤ n → j ≤ n → w.frozen? ⟨g, i * (n + 1) + j, none⟩ = false
theorem pos_inj {n i j a c : Nat} (hj : j ≤ n) (hc : c ≤ n) (h : i * (n + 1) + j = a * (n + 1) + c) : i = a ∧ j = c := by
  have h1 : (i * (n + 1) + j) / (n + 1) = i := by rw [Nat.mul_comm, Nat.mul_add_div (by omega), Nat.div_eq_of_lt (by omega)]; rfl
  have h2 : (a * (n + 1) + c) / (n + 1) = a := by rw [Nat.mul_comm, Nat.mul_add_div (by omega), Nat.div_eq_of_lt (by omega)]; rfl
  have e : i = a := by rw [← h1, h, h2]
  subst e
  exact ⟨rfl, by omega⟩
theorem pos_lt {n i j : Nat} (hi : i ≤ n) (hj : j ≤ n) : i * (n + 1) + j < (n + 1) * (n + 1) := by
  have := Nat.mul_le_mul_right (n + 1) (show i + 1 ≤ n + 1 by omega)
  rw [Nat.add_mul] at this
  omega
theorem MatAt.set {w : World} {g n : Nat} {r : Mat} (h : MatAt w g n r) {i j : Nat} (hi : i ≤ n) (hj : j ≤ n) (v : Int) : MatAt (w.setCell ⟨g, i * (n + 1) + j, none⟩ (.int .i64 v)) g n (upd r i j v) := by
  refine ⟨?_, ?_⟩
  · intro a c ha hc
    by_cases e : a = i ∧ c = j
    · obtain ⟨rfl, rfl⟩ := e
      rw [World.cell?_setCell_same _ _ _ (h.cell a c ha hc)]
      simp [upd]
    · rw [World.cell?_setCell_other _ _ _ _ (by intro q; injection q with q1 q2; exact e ⟨(pos_inj hj hc q2).1.symm, (pos_inj hj hc q2).2.symm⟩), h.cell a c ha hc]
      simp [upd, e]
  · intro a c ha hc
    rw [World.frozen?_setCell]
    exact h.free a c ha hc
theorem MatAt.drewN {w : World} {g n : Nat} {r : Mat} (h : MatAt w g n r) (k : Nat) : MatAt (w.drewN k) g n r := ⟨h.cell, h.free⟩
def rcStep (k i j : Nat) (r : Mat) : Mat := if dplus (r i k) (r k j) < r i j then upd r i j (dplus (r i k) (r k j)) else r
def rcRow (k i : Nat) : Nat → Mat → Mat
  | 0, r => r
  | c + 1, r => rcStep k i c (rcRow k i c r)
def rcAll (k n : Nat) : Nat → Mat → Mat
  | 0, r => r
  | c + 1, r => rcRow k c (n + 1) (rcAll k n c r)
def rcl (n : Nat) : Nat → Mat → Option Mat
  | 0, r => some r
  | c + 1, r => (rcl n c r).bind fun q => if diagOk n (rcAll c n (n + 1) q) (n + 1) then some (rcAll c n (n + 1) q) else none
theorem rcl_none {n : Nat} {r : Mat} : ∀ {c : Nat} (d : Nat), c ≤ d → rcl n c r = none → rcl n d r = none := by
  intro c d h e
  induction d with
  | zero => obtain rfl : c = 0 := by omega
            exact e
  | succ d ih =>
    by_cases q : c = d + 1
    · subst q; exact e
    · simp [rcl, ih (by omega)]
set_option maxHeartbeats 2000000 in
theorem rclose_raw (g n m cap : Nat) (r : Mat) (w : World) (h : n ≤ 8) (hm : Hid (m = (n + 1) * (n + 1))) (hM : MatAt w g n r) :
    Calls Tryz.prog 66 #[.int .i64 n, .slice (some ⟨g, 0, none⟩) m cap] w fun e w' => e = .returned (.bool (rcl n (n + 1) r).isSome) ∧ Below g w w' ∧ (∃ s, MatAt w' g n s ∧ ∀ s', rcl n (n + 1) r = some s' → s' = s) := by
  have HM := hideD hM
  clear hM
  go_enter Tryz.func66, Tryz.ntmps66
  go_wp2_with fail
  go_loopw [5] (fun s wr => ∃ (K : Nat) (q : Mat), K ≤ n + 1 ∧ s = .int .i64 K ∧ Hid (rcl n K r = some q) ∧ Hid (MatAt wr g n q) ∧ Hid (Below g w wr)) (fun s _ => n + 1 - (intOf s).toNat)
  case atStart => exact ⟨0, r, by omega, rfl, rfl, HM, Below.refl _ _⟩
  case round =>
    obtain ⟨K, q, hK, rfl, hq, hM, hB⟩ := hrel
    by_cases ck : K ≤ n
    · go_wp2_with fail
      go_loopw [6] (fun s wr => ∃ (I : Nat), I ≤ n + 1 ∧ s = .int .i64 I ∧ Hid (MatAt wr g n (rcAll K n I q)) ∧ Hid (Below g w wr)) (fun s _ => n + 1 - (intOf s).toNat)
      case atStart => exact ⟨0, by omega, rfl, hM, hB⟩
      case round =>
        obtain ⟨I, hI, rfl, hM, hB⟩ := hrel
        by_cases ci : I ≤ n
        · go_wp2_with fail
          go_loopw [7] (fun s wr => ∃ (J : Nat), J ≤ n + 1 ∧ s = .int .i64 J ∧ Hid (MatAt wr g n (rcRow K I J (rcAll K n I q))) ∧ Hid (Below g w wr)) (fun s _ => n + 1 - (intOf s).toNat)
          case atStart => exact ⟨0, by omega, rfl, hM, hB⟩
          case round =>
            obtain ⟨J, hJ, rfl, hM, hB⟩ := hrel
            by_cases cj : J ≤ n
            · have h1 := hM.out.cell I K ci ck
              have h2 := hM.out.cell K J ck cj
              have h3 := hM.out.cell I J ci cj
              have h4 := hM.out.free I J ci cj
              have l1 := pos_lt ci ck
              have l2 := pos_lt ck cj
              have l3 := pos_lt ci cj
              have q81 : (n + 1) * (n + 1) ≤ 81 := Nat.mul_le_mul (show n + 1 ≤ 9 by omega) (show n + 1 ≤ 9 by omega)
              rw [← hm.out] at l1 l2 l3 q81
              obtain ⟨p, hp⟩ : ∃ p, p = rcRow K I J (rcAll K n I q) := ⟨_, rfl⟩
              have ST : Hid (rcRow K I (J + 1) (rcAll K n I q) = rcStep K I J p) := by show rcRow K I (J + 1) (rcAll K n I q) = _; rw [hp]; rfl
              rw [← hp] at hM h1 h2 h3
              clear hp
              have e1 : IntKind.i64.wrap ((I : Int) * ((n : Int) + 1)) = ((I * (n + 1) : Nat) : Int) := by
                have : (I : Int) * ((n : Int) + 1) = ((I * (n + 1) : Nat) : Int) := by simp
                rw [this, IntKind.wrap_i64]
                generalize I * (n + 1) = z at *
                omega
              have e2 : IntKind.i64.wrap ((K : Int) * ((n : Int) + 1)) = ((K * (n + 1) : Nat) : Int) := by
                have : (K : Int) * ((n : Int) + 1) = ((K * (n + 1) : Nat) : Int) := by simp
                rw [this, IntKind.wrap_i64]
                generalize K * (n + 1) = z at *
                omega
              have SE := hideD (fun k v => (hM.out.drewN k).set ci cj v)
              generalize I * (n + 1) = a at *
              generalize K * (n + 1) = b at *
              have e3 : (0 : Int) ≤ (a : Int) := by omega
              have e4 : (0 : Int) ≤ (b : Int) := by omega
              have e5 : (a : Int) + (K : Int) < (m : Int) := by omega
              have e6 : (b : Int) + (J : Int) < (m : Int) := by omega
              have e7 : (a : Int) + (J : Int) < (m : Int) := by omega
              have e8 : (m : Int) ≤ 81 := by omega
              have HP : Hid (∀ w, Calls Tryz.prog 90 #[.int .i64 (p I K), .int .i64 (p K J)] w fun e w' => e = .returned (.int .i64 (dplus (p I K) (p K J))) ∧ w' = w) := fun w => rplus_any _ _ w
              have ST2 : Hid (rcStep K I J p = if dplus (p I K) (p K J) < p I J then upd p I J (dplus (p I K) (p K J)) else p) := rfl
              generalize p I K = x at *
              generalize p K J = y at *
              generalize p I J = z at *
              generalize dplus x y = s at *
              by_cases cz : s < z
              · rw [if_pos cz] at ST2
                go_wp2_with fail
                go_quiet ((go_at_call 90; exact Calls.quiet_of_same (HP.out _)))
                go_wp2_with fail
                go_roundw
                case rel => exact ⟨J + 1, by omega, by go_num, by rw [ST.out, ST2.out]; exact SE.out _ _, (below_drewN hB.out _).setCell (Nat.le_refl _) _⟩
                case measure => simp [intOf]; omega
              · rw [if_neg cz] at ST2
                go_wp2_with fail
                go_quiet ((go_at_call 90; exact Calls.quiet_of_same (HP.out _)))
                go_wp2_with fail
                go_roundw
                case rel => exact ⟨J + 1, by omega, by go_num, by rw [ST.out, ST2.out]; exact hM.out.drewN _, below_drewN hB.out _⟩
                case measure => simp [intOf]; omega
            · have hM' : Hid (MatAt wr g n (rcAll K n (I + 1) q)) := by
                obtain rfl : J = n + 1 := by omega
                exact hM
              clear hM
              go_wp2_with fail
              go_roundw
              case rel => exact ⟨I + 1, by omega, by go_num, hM', hB⟩
              case measure => simp [intOf]; omega
        · have hM' : Hid (MatAt wr g n (rcAll K n (n + 1) q)) := by
            obtain rfl : I = n + 1 := by omega
            exact hM
          have ST : Hid (rcl n (K + 1) r = if diagOk n (rcAll K n (n + 1) q) (n + 1) then some (rcAll K n (n + 1) q) else none) := by show rcl n (K + 1) r = _; simp [rcl, hq.out]
          clear hM
          generalize rcAll K n (n + 1) q = p at *
          go_wp2_with fail
          go_loopw [9] (fun s wr => ∃ (I : Nat), I ≤ n + 1 ∧ s = .int .i64 I ∧ Hid (diagOk n p I = true) ∧ Hid (MatAt wr g n p) ∧ Hid (Below g w wr)) (fun s _ => n + 1 - (intOf s).toNat)
          case atStart => exact ⟨0, by omega, rfl, rfl, hM', hB⟩
          case round =>
            obtain ⟨I2, hI2, rfl, hd, hM, hB⟩ := hrel
            by_cases ci2 : I2 ≤ n
            · have h1 := hM.out.cell I2 I2 ci2 ci2
              have l1 := pos_lt ci2 ci2
              have q81 : (n + 1) * (n + 1) ≤ 81 := Nat.mul_le_mul (show n + 1 ≤ 9 by omega) (show n + 1 ≤ 9 by omega)
              rw [← hm.out] at l1 q81
              have st : Hid (diagOk n p (I2 + 1) = decide (1 ≤ p I2 I2)) := by show diagOk n p (I2 + 1) = _; simp [diagOk, hd.out]
              have e1 : IntKind.i64.wrap ((I2 : Int) * ((n : Int) + 1)) = ((I2 * (n + 1) : Nat) : Int) := by
                have : (I2 : Int) * ((n : Int) + 1) = ((I2 * (n + 1) : Nat) : Int) := by simp
                rw [this, IntKind.wrap_i64]
                generalize I2 * (n + 1) = z at *
                omega
              generalize I2 * (n + 1) = a at *
              have e3 : (0 : Int) ≤ (a : Int) := by omega
              have e5 : (a : Int) + (I2 : Int) < (m : Int) := by omega
              have e8 : (m : Int) ≤ 81 := by omega
              generalize p I2 I2 = x at *
              by_cases cx : x < 1
              · have st3 : Hid (rcl n (n + 1) r = none) := by
                  show rcl n (n + 1) r = none
                  refine rcl_none (c := K + 1) (n + 1) (by omega) ?_
                  have e : diagOk n p (n + 1) = false := by
                    refine diagOk_false (c := I2 + 1) (n + 1) (by omega) ?_
                    rw [st.out, decide_eq_false (by omega)]
                  rw [ST.out, e]
                  rfl
                clear st ST hd
                go_wp2_with fail
                go_ret
                refine ⟨?_, hB.out, p, hM.out, fun s' e => ?_⟩
                · rw [st3.out]; rfl
                · rw [st3.out] at e; simp at e
              · have st3 : Hid (diagOk n p (I2 + 1) = true) := by show diagOk n p (I2 + 1) = true; rw [st.out, decide_eq_true (by omega)]
                clear st hd
                go_wp2_with fail
                go_roundw
                case rel => exact ⟨I2 + 1, by omega, by go_num, st3, hM, hB⟩
                case measure => simp [intOf]; omega
            · have st3 : Hid (rcl n (K + 1) r = some p) := by
                obtain rfl : I2 = n + 1 := by omega
                show rcl n (K + 1) r = _
                rw [ST.out, hd.out]
                rfl
              clear ST hd
              go_wp2_with fail
              go_roundw
              case rel => exact ⟨K + 1, p, by omega, by go_num, st3, hM, hB⟩
              case measure => simp [intOf]; omega
    · have st : Hid (rcl n (n + 1) r = some q) := by
        obtain rfl : K = n + 1 := by omega
        exact hq
      clear hq
      go_wp2_with fail
      go_ret
      refine ⟨?_, hB.out, q, hM.out, fun s' e => ?_⟩
      · rw [st.out]; rfl
      · rw [st.out] at e; injection e with e; exact e.symm
end Go.Proofs.YtnfkmpickmonoaaGreat

/-
  Both ways of closing are one: the program's, which gives up at the first clock that would be less than itself, and the document's, which looks behind each round.
-/
namespace Go.Proofs.YtnfkmpickmonoaaGreat
open Go.RowKit
set_option linter.unusedVariables false
def One (n : Nat) (p : Mat) : Prop := ∀ i, i ≤ n → p i i = 1
def Bad (n : Nat) (p : Mat) : Prop := ∃ i, i ≤ n ∧ p i i < 1
theorem rcStep_le (k i j : Nat) (p : Mat) (a : Nat) : rcStep k i j p a a ≤ p a a := by
  unfold rcStep
  split
  · unfold upd
    split
    · rename_i h e
      obtain ⟨rfl, rfl⟩ := e
      omega
    · omega
  · omega
theorem Bad.step {n : Nat} {p : Mat} (h : Bad n p) (k i j : Nat) : Bad n (rcStep k i j p) := by
  obtain ⟨a, ha, hb⟩ := h
  exact ⟨a, ha, by have := rcStep_le k i j p a; omega⟩
theorem Bad.row {n : Nat} {p : Mat} (h : Bad n p) (k i c : Nat) : Bad n (rcRow k i c p) := by
  induction c with
  | zero => exact h
  | succ c ih => exact ih.step _ _ _
theorem Bad.all {n : Nat} {p : Mat} (h : Bad n p) (k m c : Nat) : Bad n (rcAll k m c p) := by
  induction c with
  | zero => exact h
  | succ c ih => exact ih.row _ _ _
theorem step_both {n : Nat} {p : Mat} (h : One n p) (k i j : Nat) (hi : i ≤ n) (hj : j ≤ n) :
    (cbStep k i j p = some (rcStep k i j p) ∧ One n (rcStep k i j p)) ∨ (cbStep k i j p = none ∧ Bad n (rcStep k i j p)) := by
  unfold cbStep rcStep
  by_cases c : p i j ≤ dplus (p i k) (p k j)
  · rw [if_pos c, if_neg (by omega)]
    exact .inl ⟨rfl, h⟩
  · have c' : dplus (p i k) (p k j) < p i j := by omega
    rw [if_neg c, if_pos c']
    by_cases e : i = j
    · subst e
      rw [if_pos rfl]
      refine .inr ⟨rfl, i, hi, ?_⟩
      have := h i hi
      simp [upd]
      omega
    · rw [if_neg e]
      refine .inl ⟨rfl, fun a ha => ?_⟩
      have : ¬ (a = i ∧ a = j) := by omega
      simp [upd, this]
      exact h a ha
theorem row_both {n : Nat} {p : Mat} (h : One n p) (k i : Nat) (hi : i ≤ n) (c : Nat) (hc : c ≤ n + 1) :
    (cbRow k i c p = some (rcRow k i c p) ∧ One n (rcRow k i c p)) ∨ (cbRow k i c p = none ∧ Bad n (rcRow k i c p)) := by
  induction c with
  | zero => exact .inl ⟨rfl, h⟩
  | succ c ih =>
    rcases ih (by omega) with ⟨e, o⟩ | ⟨e, b⟩
    · rcases step_both o k i c hi (by omega) with ⟨e2, o2⟩ | ⟨e2, b2⟩
      · exact .inl ⟨by simp [cbRow, e, e2, rcRow], o2⟩
      · exact .inr ⟨by simp [cbRow, e, e2], b2⟩
    · exact .inr ⟨by simp [cbRow, e], b.step _ _ _⟩
theorem all_both {n : Nat} {p : Mat} (h : One n p) (k c : Nat) (hc : c ≤ n + 1) :
    (cbAll k n c p = some (rcAll k n c p) ∧ One n (rcAll k n c p)) ∨ (cbAll k n c p = none ∧ Bad n (rcAll k n c p)) := by
  induction c with
  | zero => exact .inl ⟨rfl, h⟩
  | succ c ih =>
    rcases ih (by omega) with ⟨e, o⟩ | ⟨e, b⟩
    · rcases row_both o k c (by omega) (n + 1) (Nat.le_refl _) with ⟨e2, o2⟩ | ⟨e2, b2⟩
      · exact .inl ⟨by simp [cbAll, e, e2, rcAll], o2⟩
      · exact .inr ⟨by simp [cbAll, e, e2], b2⟩
    · exact .inr ⟨by simp [cbAll, e], b.row _ _ _⟩
theorem diagOk_iff (n : Nat) (p : Mat) (c : Nat) : diagOk n p c = true ↔ ∀ i, i < c → 1 ≤ p i i := by
  induction c with
  | zero => simp [diagOk]
  | succ c ih =>
    simp only [diagOk, Bool.and_eq_true, ih, decide_eq_true_eq]
    constructor
    · rintro ⟨a, b⟩ i hi
      by_cases e : i = c
      · subst e; exact b
      · exact a i (by omega)
    · intro h
      exact ⟨fun i hi => h i (by omega), h c (by omega)⟩
theorem One.ok {n : Nat} {p : Mat} (h : One n p) : diagOk n p (n + 1) = true := (diagOk_iff _ _ _).2 fun i hi => by have := h i (by omega); omega
theorem Bad.no {n : Nat} {p : Mat} (h : Bad n p) : diagOk n p (n + 1) = false := by
  cases e : diagOk n p (n + 1)
  · rfl
  · obtain ⟨i, hi, hb⟩ := h
    have := (diagOk_iff _ _ _).1 e i (by omega)
    omega
theorem rounds_both {n : Nat} {r : Mat} (h : One n r) (c : Nat) (hc : c ≤ n + 1) : clAll n c r = rcl n c r ∧ ∀ q, rcl n c r = some q → One n q := by
  induction c with
  | zero => exact ⟨rfl, fun q e => by simp [rcl] at e; subst e; exact h⟩
  | succ c ih =>
    obtain ⟨e, o⟩ := ih (by omega)
    cases er : rcl n c r with
    | none => simp [clAll, rcl, e, er]
    | some q =>
      rcases all_both (o q er) c (n + 1) (Nat.le_refl _) with ⟨e2, o2⟩ | ⟨e2, b2⟩
      · have k := o2.ok
        refine ⟨by simp [clAll, rcl, e, er, e2, k], fun q' h' => ?_⟩
        simp [rcl, er, k] at h'
        subst h'
        exact o2
      · have k := b2.no
        exact ⟨by simp [clAll, rcl, e, er, e2, k], fun q' h' => by simp [rcl, er, k] at h'⟩
/-- A matrix whose own differences are at most 0 is closed alike by both. -/
theorem close_both {n : Nat} {r : Mat} (h : ∀ i, i ≤ n → r i i ≤ 1) : closeR n r = rcl n (n + 1) r := by
  unfold closeR
  cases d : diagOk n r (n + 1)
  · simp only [Bool.false_eq_true, if_false]
    have b : Bad n r := by
      apply Classical.byContradiction
      intro hb
      have : diagOk n r (n + 1) = true := (diagOk_iff _ _ _).2 fun i hi => by
        apply Classical.byContradiction
        intro q
        exact hb ⟨i, by omega, by omega⟩
      rw [this] at d
      cases d
    symm
    refine rcl_none (c := 1) (n + 1) (by omega) ?_
    have k := (b.all 0 n (n + 1)).no
    simp [rcl, k]
  · simp only [if_true]
    have o : One n r := fun i hi => by
      have := (diagOk_iff _ _ _).1 d i (by omega)
      have := h i hi
      omega
    exact (rounds_both o (n + 1) (Nat.le_refl _)).1
end Go.Proofs.YtnfkmpickmonoaaGreat
