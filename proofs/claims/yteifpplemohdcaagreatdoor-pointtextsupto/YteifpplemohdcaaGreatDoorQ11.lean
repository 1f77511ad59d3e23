/-
  The contract of closeBy and close.
-/
import Derived.Test.YteifpplemohdcaaGreatDoorQ10
namespace Go.Proofs.YteifpplemohdcaaGreatDoor
open Go.RowKit
set_option linter.unusedVariables false
def cbStep (k i j : Nat) (r : Mat) : Option Mat :=
  if r i j ≤ dplus (r i k) (r k j) then some r else if i = j then none else some (upd r i j (dplus (r i k) (r k j)))
def cbRow (k i : Nat) : Nat → Mat → Option Mat
  | 0, r => some r
  | c + 1, r => (cbRow k i c r).bind (cbStep k i c)
def cbAll (k n : Nat) : Nat → Mat → Option Mat
  | 0, r => some r
  | c + 1, r => (cbAll k n c r).bind (cbRow k c (n + 1))
theorem cbRow_none {k i : Nat} {r : Mat} : ∀ {c : Nat} (d : Nat), c ≤ d → cbRow k i c r = none → cbRow k i d r = none := by
  intro c d h e
  induction d with
  | zero => obtain rfl : c = 0 := by omega
            exact e
  | succ d ih =>
    by_cases q : c = d + 1
    · subst q; exact e
    · simp [cbRow, ih (by omega)]
theorem cbAll_none {k n : Nat} {r : Mat} : ∀ {c : Nat} (d : Nat), c ≤ d → cbAll k n c r = none → cbAll k n d r = none := by
  intro c d h e
  induction d with
  | zero => obtain rfl : c = 0 := by omega
            exact e
  | succ d ih =>
    by_cases q : c = d + 1
    · subst q; exact e
    · simp [cbAll, ih (by omega)]
set_option maxHeartbeats 1000000 in
theorem closeBy_any (b n k : Nat) (r : Mat) (w : World) (h : n ≤ 8) (hk : k ≤ n) (hD : Draft w b n r) :
    Calls Tryz.prog 95 #[.pointer (some ⟨b, 0, none⟩), .int .i64 k] w fun e w' => e = .returned (.bool (cbAll k n (n + 1) r).isSome) ∧ Below b w w' ∧ (∃ s, Draft w' b n s ∧ ∀ s', cbAll k n (n + 1) r = some s' → s' = s) := by
  have HD := hideD hD
  clear hD
  go_enter Tryz.func95, Tryz.ntmps95
  go_wp2_with fail
  go_loopw [5] (fun s wr => ∃ (I : Nat) (q : Mat), I ≤ n + 1 ∧ s = .int .i64 I ∧ Hid (cbAll k n I r = some q) ∧ Hid (Draft wr b n q) ∧ Hid (Below b w wr)) (fun s _ => n + 1 - (intOf s).toNat)
  case atStart => exact ⟨0, r, by omega, rfl, rfl, HD, Below.refl _ _⟩
  case round =>
    obtain ⟨I, q, hI, rfl, hq, hD, hB⟩ := hrel
    have hcl := hD.out.clocks
    by_cases c : I ≤ n
    · go_wp2_with fail
      clear hcl
      go_loopw [6] (fun s wr => ∃ (J : Nat) (p : Mat), J ≤ n + 1 ∧ s = .int .i64 J ∧ Hid (cbRow k I J q = some p) ∧ Hid (Draft wr b n p) ∧ Hid (Below b w wr)) (fun s _ => n + 1 - (intOf s).toNat)
      case atStart => exact ⟨0, q, by omega, rfl, rfl, hD, hB⟩
      case round =>
        obtain ⟨J, p, hJ, rfl, hp, hD, hB⟩ := hrel
        have hcl := hD.out.clocks
        by_cases cj : J ≤ n
        · have h1 := hD.out.cell I k (by omega) (by omega)
          have h2 := hD.out.cell k J (by omega) (by omega)
          have h3 := hD.out.cell I J (by omega) (by omega)
          have h4 := hD.out.free I J (by omega) (by omega)
          have st : Hid (cbRow k I (J + 1) q = cbStep k I J p) := by show cbRow k I (J + 1) q = _; simp [cbRow, hp.out]
          generalize e1 : p I k = x at *
          generalize e2 : p k J = y at *
          generalize e3 : p I J = z at *
          have st2 : Hid (cbStep k I J p = if z ≤ dplus x y then some p else if I = J then none else some (upd p I J (dplus x y))) := by show cbStep k I J p = _; simp [cbStep, e1, e2, e3]
          have HP : Hid (∀ w, Calls Tryz.prog 122 #[.int .i64 x, .int .i64 y] w fun e w' => e = .returned (.int .i64 (dplus x y)) ∧ w' = w) := fun w => dplus_any x y w
          generalize dplus x y = s at *
          clear e1 e2 e3
          by_cases cz : z ≤ s
          · have st3 : Hid (cbRow k I (J + 1) q = some p) := by show cbRow k I (J + 1) q = _; rw [st.out, st2.out, if_pos cz]
            clear st st2
            go_wp2_with fail
            go_quiet ((go_at_call 122; exact Calls.quiet_of_same (HP.out _)))
            go_wp2_with fail
            go_roundw
            case rel => exact ⟨J + 1, p, by omega, by go_num, st3, hD.out.drewN _, below_drewN hB.out _⟩
            case measure => simp [intOf]; omega
          · by_cases ce : I = J
            · have st3 : Hid (cbAll k n (n + 1) r = none) := by
                show cbAll k n (n + 1) r = none
                refine cbAll_none (c := I + 1) (n + 1) (by omega) ?_
                simp [cbAll, hq.out]
                refine cbRow_none (c := J + 1) (n + 1) (by omega) ?_
                rw [st.out, st2.out, if_neg cz, if_pos ce]
              clear st st2
              subst ce
              go_wp2_with fail
              go_quiet ((go_at_call 122; exact Calls.quiet_of_same (HP.out _)))
              go_wp2_with fail
              go_ret
              refine ⟨?_, below_drewN hB.out _, p, hD.out.drewN _, fun s' e => ?_⟩
              · simp [st3.out]
              · rw [st3.out] at e; simp at e
            · have st3 : Hid (cbRow k I (J + 1) q = some (upd p I J s)) := by show cbRow k I (J + 1) q = _; rw [st.out, st2.out, if_neg cz, if_neg ce]
              clear st st2
              have t1 : ((I : Int) == (J : Int)) = false := by simp; omega
              go_wp2_with fail
              go_quiet ((go_at_call 122; exact Calls.quiet_of_same (HP.out _)))
              go_wp2_with fail
              go_roundw
              case rel => exact ⟨J + 1, upd p I J s, by omega, by go_num, st3, (hD.out.drewN _).set (by omega) (by omega) _, (below_drewN hB.out _).setCell (Nat.le_refl _) _⟩
              case measure => simp [intOf]; omega
        · have ej : J = n + 1 := by omega
          subst ej
          have st : Hid (cbAll k n (I + 1) r = some p) := by show cbAll k n (I + 1) r = _; simp [cbAll, hq.out, hp.out]
          go_wp2_with fail
          go_roundw
          case rel => exact ⟨I + 1, p, by omega, by go_num, st, hD, hB⟩
          case measure => simp [intOf]; omega
    · have eI : I = n + 1 := by omega
      subst eI
      go_wp2_with fail
      go_ret
      refine ⟨?_, hB.out, q, hD.out, fun s' e => ?_⟩
      · simp [hq.out]
      · rw [hq.out] at e; injection e with e; exact e.symm

/-! ### close -/
def diagOk (n : Nat) (r : Mat) : Nat → Bool
  | 0 => true
  | c + 1 => diagOk n r c && decide (1 ≤ r c c)
def clAll (n : Nat) : Nat → Mat → Option Mat
  | 0, r => some r
  | c + 1, r => (clAll n c r).bind (cbAll c n (n + 1))
def closeR (n : Nat) (r : Mat) : Option Mat := if diagOk n r (n + 1) then clAll n (n + 1) r else none
theorem clAll_none {n : Nat} {r : Mat} : ∀ {c : Nat} (d : Nat), c ≤ d → clAll n c r = none → clAll n d r = none := by
  intro c d h e
  induction d with
  | zero => obtain rfl : c = 0 := by omega
            exact e
  | succ d ih =>
    by_cases q : c = d + 1
    · subst q; exact e
    · simp [clAll, ih (by omega)]
theorem diagOk_false {n : Nat} {r : Mat} : ∀ {c : Nat} (d : Nat), c ≤ d → diagOk n r c = false → diagOk n r d = false := by
  intro c d h e
  induction d with
  | zero => obtain rfl : c = 0 := by omega
            exact e
  | succ d ih =>
    by_cases q : c = d + 1
    · subst q; exact e
    · simp [diagOk, ih (by omega)]
set_option maxHeartbeats 1000000 in
theorem close_any (b n : Nat) (r : Mat) (w : World) (h : n ≤ 8) (hD : Draft w b n r) :
    Calls Tryz.prog 68 #[.pointer (some ⟨b, 0, none⟩)] w fun e w' => e = .returned (.bool (closeR n r).isSome) ∧ Below b w w' ∧ (∃ s, Draft w' b n s ∧ ∀ s', closeR n r = some s' → s' = s) := by
  have HD := hideD hD
  clear hD
  go_enter Tryz.func68, Tryz.ntmps68
  go_wp2_with fail
  go_loopw [3] (fun s wr => ∃ (I : Nat), I ≤ n + 1 ∧ s = .int .i64 I ∧ Hid (diagOk n r I = true) ∧ Hid (Draft wr b n r) ∧ Hid (Below b w wr)) (fun s _ => n + 1 - (intOf s).toNat)
  case atStart => exact ⟨0, by omega, rfl, rfl, HD, Below.refl _ _⟩
  case round =>
    obtain ⟨I, hI, rfl, hq, hD, hB⟩ := hrel
    have hcl := hD.out.clocks
    by_cases c : I ≤ n
    · have h1 := hD.out.cell I I (by omega) (by omega)
      have st : Hid (diagOk n r (I + 1) = decide (1 ≤ r I I)) := by show diagOk n r (I + 1) = _; simp [diagOk, hq.out]
      generalize r I I = x at *
      by_cases cx : x < 1
      · have st3 : Hid (closeR n r = none) := by
          show closeR n r = none
          have e : diagOk n r (n + 1) = false := by
            refine diagOk_false (c := I + 1) (n + 1) (by omega) ?_
            rw [st.out, decide_eq_false (by omega)]
          simp [closeR, e]
        clear st
        go_wp2_with fail
        go_ret
        refine ⟨?_, hB.out, r, hD.out, fun s' e => ?_⟩
        · simp [st3.out]
        · rw [st3.out] at e; simp at e
      · have st3 : Hid (diagOk n r (I + 1) = true) := by show diagOk n r (I + 1) = true; rw [st.out, decide_eq_true (by omega)]
        clear st
        go_wp2_with fail
        go_roundw
        case rel => exact ⟨I + 1, by omega, by go_num, st3, hD, hB⟩
        case measure => simp [intOf]; omega
    · have st : Hid (closeR n r = clAll n (n + 1) r) := by
        obtain rfl : I = n + 1 := by omega
        show closeR n r = _
        simp [closeR, hq.out]
      clear hq
      go_wp2_with fail
      clear hcl
      go_loopw [4] (fun s wr => ∃ (K : Nat) (q : Mat), K ≤ n + 1 ∧ s = .int .i64 K ∧ Hid (clAll n K r = some q) ∧ Hid (Draft wr b n q) ∧ Hid (Below b w wr)) (fun s _ => n + 1 - (intOf s).toNat)
      case atStart => exact ⟨0, r, by omega, rfl, rfl, hD, hB⟩
      case round =>
        obtain ⟨K, q, hK, rfl, hq, hD, hB⟩ := hrel
        have hcl := hD.out.clocks
        by_cases c : K ≤ n
        · have H := hideD (closeBy_any b n K q wr h c hD.out)
          have st2 : Hid (clAll n (K + 1) r = cbAll K n (n + 1) q) := by show clAll n (K + 1) r = _; simp [clAll, hq.out]
          cases e : cbAll K n (n + 1) q with
          | none =>
            rw [e] at H
            have st3 : Hid (closeR n r = none) := by
              show closeR n r = none
              rw [st.out]
              exact clAll_none (c := K + 1) (n + 1) (by omega) (st2.out.trans e)
            clear st st2
            go_wp2_with fail
            refine H.out.mono ?_
            rintro e' w1 ⟨rfl, hb, s, hs, -⟩
            go_wp2_with fail
            go_ret
            refine ⟨?_, hB.out.trans hb, s, hs, fun s' e => ?_⟩
            · simp [st3.out]
            · rw [st3.out] at e; simp at e
          | some p =>
            rw [e] at H
            have st3 : Hid (clAll n (K + 1) r = some p) := st2.out.trans e
            clear st2
            go_wp2_with fail
            refine H.out.mono ?_
            rintro e' w1 ⟨rfl, hb, s, hs, hp⟩
            obtain rfl := hp p rfl
            have hs' := hideD hs
            have hb' := hideD (hB.out.trans hb)
            clear hs hb hp
            go_wp2_with fail
            go_roundw
            case rel => exact ⟨K + 1, p, by omega, by go_num, st3, hs', hb'⟩
            case measure => simp [intOf]; omega
        · have eK : K = n + 1 := by omega
          subst eK
          have st3 : Hid (closeR n r = some q) := st.out.trans hq.out
          clear st hq
          go_wp2_with fail
          go_ret
          refine ⟨?_, hB.out, q, hD.out, fun s' e => ?_⟩
          · simp [st3.out]
          · rw [st3.out] at e; injection e with e; exact e.symm
end Go.Proofs.YteifpplemohdcaaGreatDoor

/-
  A zone in memory; the contracts of none, used, at, hollow, zone.
-/
namespace Go.Proofs.YteifpplemohdcaaGreatDoor
open Go.RowKit
set_option linter.unusedVariables false
abbrev Row := Nat → Int
/-- In block b there lies a zone of n clocks with these cells (the places behind the used ones hold 0). -/
structure ZoneAt (w : World) (b n : Nat) (c : Row) : Prop where
  clocks : w.cell? ⟨b, 0, none⟩ = some (.int .i64 n)
  cell : ∀ k, k < 81 → w.cell? ⟨b, 1 + k, none⟩ = some (.int .i32 (c k))
  free : ∀ k, k < 81 → w.frozen? ⟨b, 1 + k, none⟩ = false
def updR (c : Row) (k : Nat) (v : Int) : Row := fun a => if a = k then v else c a
theorem ZoneAt.set {w : World} {b n : Nat} {c : Row} (h : ZoneAt w b n c) {k : Nat} (hk : k < 81) (v : Int) : ZoneAt (w.setCell ⟨b, 1 + k, none⟩ (.int .i32 v)) b n (updR c k v) := by
  refine ⟨?_, ?_, ?_⟩
  · rw [World.cell?_setCell_other _ _ _ _ (by intro e; injection e; omega)]
    exact h.clocks
  · intro a ha
    by_cases e : a = k
    · subst e
      rw [World.cell?_setCell_same _ _ _ (h.cell a ha)]
      simp [updR]
    · rw [World.cell?_setCell_other _ _ _ _ (by intro e; injection e; omega), h.cell a ha]
      simp [updR, e]
  · intro a ha
    rw [World.frozen?_setCell]
    exact h.free a ha
theorem ZoneAt.lt {w : World} {b n : Nat} {c : Row} (h : ZoneAt w b n c) : b < w.heap.size := World.block_lt_of_cell? _ _ h.clocks
theorem ZoneAt.later {w w' : World} {b n : Nat} {c : Row} (h : ZoneAt w b n c) {B : Nat} (hb : Below B w w') (hB : b < B) : ZoneAt w' b n c :=
  ⟨(hb.cell hB).trans h.clocks, fun k hk => (hb.cell (p := ⟨b, 1 + k, none⟩) hB).trans (h.cell k hk), fun k hk => (hb.frozen (p := ⟨b, 1 + k, none⟩) hB).trans (h.free k hk)⟩
theorem ZoneAt.past {w w' : World} {b n : Nat} {c : Row} (h : ZoneAt w b n c) (hb : Below w.heap.size w w') : ZoneAt w' b n c := h.later hb h.lt

def y82 : Array Value := #[.int .i64 0] ++ Array.replicate 81 (.int .i32 0)
theorem zeroM (w : World) : Sem.run Tryz.prog (zeroValue 122) w = .ok (.agg y82) w := by kernel_rfl
theorem zeroZ (w : World) : Sem.run Tryz.prog (zeroValue 124) w = .ok (.agg y82) w := by kernel_rfl
theorem y82_ne : (y82 = #[]) = False := by simp [y82]
theorem y82_size : y82.size = 82 := by simp [y82]
theorem new_zone (w : World) (n : Nat) (T : TypeId) : ZoneAt (w.alloc (.cells (y82.setIfInBounds 0 (.int .i64 n)) T)) w.heap.size n (fun _ => 0) := by
  refine ⟨?_, ?_, ?_⟩
  · rw [World.cell?_alloc_at _ _ _ _ rfl]
    simp [y82]
  · intro k hk
    rw [World.cell?_alloc_at _ _ _ _ rfl, Array.getElem?_setIfInBounds_ne (by omega)]
    rw [y82, Array.getElem?_append_right (by simp), Array.getElem?_replicate]
    simp
    omega
  · intro k hk
    rw [World.frozen?_alloc_at _ _ _ _ rfl]
theorem build82 (v : Value) : Array.foldl (fun cs x => cs.setIfInBounds x.snd x.fst) y82 (y82.setIfInBounds 0 v).zipIdx 0 82 = y82.setIfInBounds 0 v := by kernel_rfl
theorem none_any (n : Nat) (w : World) :
    Calls Tryz.prog 69 #[.int .i64 n] w fun e w' => e = .returned (.pointer (some ⟨w.heap.size, 0, none⟩)) ∧ ZoneAt w' w.heap.size n (fun _ => 0) ∧ Below w.heap.size w w' ∧ w'.heap.size = w.heap.size + 1 := by
  have Z1 := fun w => zeroM w
  have Z2 := fun w => zeroZ w
  have Zn := y82_ne
  have Zs := y82_size
  go_enter Tryz.func69, Tryz.ntmps69
  go_wp2
  go_ret
  rw [build82]
  exact ⟨rfl, new_zone w n _, below_one _ _, by simp⟩
end Go.Proofs.YteifpplemohdcaaGreatDoor

/-
  The contracts of used, at, hollow, nowhereLess, zone.
-/
namespace Go.Proofs.YteifpplemohdcaaGreatDoor
open Go.RowKit
set_option linter.unusedVariables false
set_option maxRecDepth 100000
theorem used_raw (b : Nat) (n s : Int) (q : Nat) (w : World) (hc : w.cell? ⟨b, 0, none⟩ = some (.int .i64 n)) (e : IntKind.i64.wrap (s * s) = (q : Int)) (q1 : q ≤ 81)
    (HS : Hid (∀ w, Calls Tryz.prog 96 #[.agg #[.int .i64 n]] w fun e w' => e = .returned (.int .i64 s) ∧ Below w.heap.size w w')) :
    Calls Tryz.prog 70 #[.pointer (some ⟨b, 0, none⟩)] w fun e w' => e = .returned (.slice (some ⟨b, 1, none⟩) q 81) ∧ Below w.heap.size w w' := by
  have AL : Tryz.prog.arrayLen 120 = 81 := by kernel_rfl
  have q2 : (0 : Int) ≤ (q : Int) := by omega
  have q3 : (q : Int) ≤ 81 := by omega
  go_enter Tryz.func70, Tryz.ntmps70
  go_wp2_with fail
  go_region_held3 (fun w' => Below w.heap.size w w' ∧ w'.cell? ⟨b, 0, none⟩ = some (.int .i64 n))
    (first | exact ⟨by first | assumption | exact Below.refl _ _ | exact Below.drew (Below.refl _ _), by first | assumption | simp [go_sem, *]⟩ | go_keep)
    (first | (go_at_call 96; refine (HS.out _).mono ?_; rintro e' w' ⟨rfl, hb⟩; have s0 := kc ⟨b, 0, none⟩ (.int .i64 n) hb (by first | assumption | simp [go_sem, *]); have s1 := beyondD (w := w) (by first | assumption | exact Below.refl _ _ | exact Below.drew (Below.refl _ _)) hb))
  all_goals
    go_wp2
    go_ret
    exact ⟨rfl, by assumption⟩
theorem used_any (b n : Nat) (w : World) (h : n ≤ 8) (hc : w.cell? ⟨b, 0, none⟩ = some (.int .i64 n)) :
    Calls Tryz.prog 70 #[.pointer (some ⟨b, 0, none⟩)] w fun e w' => e = .returned (.slice (some ⟨b, 1, none⟩) ((n + 1) * (n + 1)) 81) ∧ Below w.heap.size w w' := by
  have q : (n + 1) * (n + 1) ≤ 81 := Nat.mul_le_mul (show n + 1 ≤ 9 by omega) (show n + 1 ≤ 9 by omega)
  refine used_raw b n ((n + 1 : Nat) : Int) _ w hc ?_ q (fun w => side_any n w h)
  rw [← Int.natCast_mul]
  generalize (n + 1) * (n + 1) = z at *
  rw [IntKind.wrap_i64]
  omega
theorem at_raw (b k : Nat) (n s i j v : Int) (w : World) (hc : w.cell? ⟨b, 0, none⟩ = some (.int .i64 n)) (hv : w.cell? ⟨b, 1 + k, none⟩ = some (.int .i32 v)) (hk : k < 81)
    (e : IntKind.i64.wrap (IntKind.i64.wrap (i * s) + j) = (k : Int))
    (HS : Hid (∀ w, Calls Tryz.prog 96 #[.agg #[.int .i64 n]] w fun e w' => e = .returned (.int .i64 s) ∧ Below w.heap.size w w')) :
    Calls Tryz.prog 97 #[.pointer (some ⟨b, 0, none⟩), .int .i64 i, .int .i64 j] w fun e w' => e = .returned (.int .i32 v) ∧ Below w.heap.size w w' := by
  have k0 : (0 : Int) ≤ (k : Int) := by omega
  have k1 : (k : Int) < 81 := by omega
  go_enter Tryz.func97, Tryz.ntmps97
  go_wp2_with fail
  go_region_held3 (fun w' => Below w.heap.size w w' ∧ w'.cell? ⟨b, 0, none⟩ = some (.int .i64 n) ∧ w'.cell? ⟨b, 1 + k, none⟩ = some (.int .i32 v))
    (first | exact ⟨by first | assumption | exact Below.refl _ _ | exact Below.drew (Below.refl _ _), by first | assumption | simp [go_sem, *], by first | assumption | simp [go_sem, *]⟩ | go_keep)
    (first | (go_at_call 96; refine (HS.out _).mono ?_; rintro e' w' ⟨rfl, hb⟩; have s0 := kc ⟨b, 0, none⟩ (.int .i64 n) hb (by first | assumption | simp [go_sem, *]); have s2 := kc ⟨b, 1 + k, none⟩ (.int .i32 v) hb (by first | assumption | simp [go_sem, *]); have s1 := beyondD (w := w) (by first | assumption | exact Below.refl _ _ | exact Below.drew (Below.refl _ _)) hb))
  all_goals
    go_wp2
    go_ret
    exact ⟨rfl, by assumption⟩
theorem at_any (b n i j : Nat) (c : Row) (w : World) (h : n ≤ 8) (hi : i ≤ n) (hj : j ≤ n) (hz : ZoneAt w b n c) :
    Calls Tryz.prog 97 #[.pointer (some ⟨b, 0, none⟩), .int .i64 i, .int .i64 j] w fun e w' => e = .returned (.int .i32 (c (i * (n + 1) + j))) ∧ Below w.heap.size w w' := by
  have hk : i * (n + 1) + j < 81 := by
    have : i * (n + 1) ≤ 8 * 9 := Nat.mul_le_mul (by omega) (by omega)
    omega
  refine at_raw b (i * (n + 1) + j) n ((n + 1 : Nat) : Int) i j _ w hz.clocks (hz.cell _ hk) hk ?_ (fun w => side_any n w h)
  rw [← Int.natCast_mul]
  generalize i * (n + 1) = z at *
  rw [IntKind.wrap_i64, IntKind.wrap_i64]
  omega
theorem hollow_raw (b : Nat) (v : Int) (w : World) (H : Hid (∀ w', Below w.heap.size w w' → Calls Tryz.prog 97 #[.pointer (some ⟨b, 0, none⟩), .int .i64 0, .int .i64 0] w' fun e w'' => e = .returned (.int .i32 v) ∧ Below w'.heap.size w' w'')) :
    Calls Tryz.prog 73 #[.pointer (some ⟨b, 0, none⟩)] w fun e w' => e = .returned (.bool (decide (v < 1))) ∧ Below w.heap.size w w' := by
  go_enter Tryz.func73, Tryz.ntmps73
  go_wp2_with fail
  refine (H.out _ (Below.refl _ _)).mono ?_
  rintro e w' ⟨rfl, hb⟩
  go_wp2
  go_ret
  exact ⟨rfl, hb⟩
theorem hollow_any (b n : Nat) (c : Row) (w : World) (h : n ≤ 8) (hz : ZoneAt w b n c) :
    Calls Tryz.prog 73 #[.pointer (some ⟨b, 0, none⟩)] w fun e w' => e = .returned (.bool (decide (c 0 < 1))) ∧ Below w.heap.size w w' := by
  refine hollow_raw b (c 0) w fun w' hb => ?_
  have := at_any b n 0 0 c w' h (by omega) (by omega) (hz.past hb)
  simpa using this
/-! ### nowhereLess -/
def nless (c d : Row) : Nat → Bool
  | 0 => true
  | k + 1 => nless c d k && decide (d k ≤ c k)
theorem nless_false {c d : Row} : ∀ {k : Nat} (m : Nat), k ≤ m → nless c d k = false → nless c d m = false := by
  intro k m h e
  induction m with
  | zero => obtain rfl : k = 0 := by omega
            exact e
  | succ m ih =>
    by_cases q : k = m + 1
    · subst q; exact e
    · simp [nless, ih (by omega)]
/-! ### zone -/
/-- The cells of a closed draft, row by row. -/
def flat (n : Nat) (r : Mat) : Row := fun k => r (k / (n + 1)) (k % (n + 1))
def cellsUpto (n : Nat) (r : Mat) (m : Nat) : Row := fun k => if k < m then narB (flat n r k) else 0
def narAll (n : Nat) (r : Mat) : Nat → Bool
  | 0 => true
  | k + 1 => narAll n r k && narOk (flat n r k)
theorem narAll_false {n : Nat} {r : Mat} : ∀ {k : Nat} (m : Nat), k ≤ m → narAll n r k = false → narAll n r m = false := by
  intro k m h e
  induction m with
  | zero => obtain rfl : k = 0 := by omega
            exact e
  | succ m ih =>
    by_cases q : k = m + 1
    · subst q; exact e
    · simp [narAll, ih (by omega)]
/-- What becomes of a draft: none: nothing (ErrBound); some cells: a zone. -/
def zoneR (n : Nat) (r : Mat) : Option Row :=
  match closeR n r with
  | none => some (fun _ => 0)
  | some p => if narAll n p ((n + 1) * (n + 1)) then some (cellsUpto n p ((n + 1) * (n + 1))) else none
theorem cells_next (n : Nat) (r : Mat) (m : Nat) : updR (cellsUpto n r m) m (narB (flat n r m)) = cellsUpto n r (m + 1) := by
  funext a
  unfold updR cellsUpto
  by_cases e : a = m
  · subst e; simp
  · rw [if_neg e]
    congr 1
    apply propext
    omega
theorem zone_none (b n : Nat) (r : Mat) (w : World) (h : n ≤ 8) (hD : Draft w b n r) (e : closeR n r = none) :
    Calls Tryz.prog 37 #[.pointer (some ⟨b, 0, none⟩)] w fun e w' => ∃ b', w.heap.size ≤ b' ∧ e = .returned (.tuple #[.pointer (some ⟨b', 0, none⟩), .int .i64 0]) ∧ ZoneAt w' b' n (fun _ => 0) ∧ Below b w w' := by
  have HC := hideD (close_any b n r w h hD)
  rw [e] at HC
  go_enter Tryz.func37, Tryz.ntmps37
  go_wp2_with fail
  refine HC.out.mono ?_
  rintro e' w1 ⟨rfl, hb, s, hs, -⟩
  have hcl := hs.clocks
  go_wp2_with fail
  refine (none_any n _).mono ?_
  rintro e' w2 ⟨rfl, hz, hb2, hs2⟩
  go_wp2_with fail
  refine bodyPost_ret (v := .tuple #[.pointer (some ⟨w1.heap.size, 0, none⟩), .int .i64 0]) (by simp [results, Tryz.results37, go_sem]) rfl ⟨w1.heap.size, hb.size, rfl, hz, hb.trans (hb2.mono (Nat.le_of_lt hs.lt))⟩
end Go.Proofs.YteifpplemohdcaaGreatDoor
