/-
  The document's alike, Empty, Includes, Equal, Common, Meets.
-/
import Derived.Test.YtbcfaepmhlanjaaEs
namespace Go.Proofs.Ytbcfaepmhlanjaa
open Go.RowKit
set_option linter.unusedVariables false
set_option maxRecDepth 100000
theorem RZone.past {w w' : World} {B r n : Nat} {l : List Int} (h : RZone w B r n l) (hb : Below w.heap.size w w') : RZone w' B r n l := by
  obtain ⟨g, cap, h0, h1, h2, h3, h4⟩ := h
  exact ⟨g, cap, kc _ _ hb h0, kc _ _ hb h1, h2, h3, fun j hj => kc _ _ hb (h4 j hj)⟩
theorem ralike_nil (v : Value) (w : World) : Calls Try.prog 40 #[.pointer none, v] w fun e w' => e = .returned (.bool false) ∧ ∃ k, w' = w.drewN k := by
  go_enter Try.func40, Try.ntmps40
  go_wp2_with fail
  go_quiet (fail)
  go_wp2_with fail
  go_ret
  exact ⟨rfl, _, rfl⟩
theorem ralike_nil2 (b : Nat) (w : World) : Calls Try.prog 40 #[.pointer (some ⟨b, 0, none⟩), .pointer none] w fun e w' => e = .returned (.bool false) ∧ ∃ k, w' = w.drewN k := by
  go_enter Try.func40, Try.ntmps40
  go_wp2_with fail
  go_quiet (fail)
  go_wp2_with fail
  go_ret
  exact ⟨rfl, _, rfl⟩
theorem ralike_raw (b o : Nat) (n m : Int) (w : World) (h1 : w.cell? ⟨b, 0, none⟩ = some (.int .i64 n)) (h2 : w.cell? ⟨o, 0, none⟩ = some (.int .i64 m)) :
    Calls Try.prog 40 #[.pointer (some ⟨b, 0, none⟩), .pointer (some ⟨o, 0, none⟩)] w fun e w' => e = .returned (.bool (n == m)) ∧ ∃ k, w' = w.drewN k := by
  go_enter Try.func40, Try.ntmps40
  go_wp2_with fail
  go_quiet (fail)
  go_wp2_with fail
  go_ret
  exact ⟨rfl, _, rfl⟩
theorem ralike_same {w : World} {B b o n : Nat} {l m : List Int} (h1 : RZone w B b n l) (h2 : RZone w B o n m) :
    Calls Try.prog 40 #[.pointer (some ⟨b, 0, none⟩), .pointer (some ⟨o, 0, none⟩)] w fun e w' => e = .returned (.bool true) ∧ ∃ k, w' = w.drewN k := by
  obtain ⟨_, _, a, _⟩ := h1
  obtain ⟨_, _, b, _⟩ := h2
  have := ralike_raw _ _ n n w a b
  simpa using this
def RUnlike (w : World) (u v : Value) : Prop := ∀ w', Below w.heap.size w w' → Calls Try.prog 40 #[u, v] w' fun e w'' => e = .returned (.bool false) ∧ ∃ k, w'' = w'.drewN k
theorem rincludes_no (u v : Value) (w : World) (h : RUnlike w u v) : Calls Try.prog 21 #[u, v] w fun e w' => e = .returned (.bool false) ∧ Below w.heap.size w w' := by
  have H := hideD (h w (Below.refl _ _))
  clear h
  go_enter Try.func21, Try.ntmps21
  go_wp2_with fail
  refine H.out.mono ?_
  rintro e w1 ⟨rfl, k, rfl⟩
  go_wp2_with fail
  go_ret
  exact ⟨rfl, below_draw _ _⟩
theorem rmeets_no (u v : Value) (w : World) (h : RUnlike w u v) : Calls Try.prog 25 #[u, v] w fun e w' => e = .returned (.bool false) ∧ Below w.heap.size w w' := by
  have H := hideD (h w (Below.refl _ _))
  clear h
  go_enter Try.func25, Try.ntmps25
  go_wp2_with fail
  refine H.out.mono ?_
  rintro e w1 ⟨rfl, k, rfl⟩
  go_wp2_with fail
  go_ret
  exact ⟨rfl, below_draw _ _⟩
theorem rempty_any {w : World} {B b n : Nat} {l : List Int} (h : RZone w B b n l) (hl : 0 < l.length) :
    Calls Try.prog 17 #[.pointer (some ⟨b, 0, none⟩)] w fun e w' => e = .returned (.bool (l.getD 0 0 != 1)) ∧ w' = w := by
  obtain ⟨g, cap, h0, h1, -, -, h4⟩ := h
  have a0 := h4 0 hl
  clear h4 h0
  generalize l.getD 0 0 = x at *
  generalize l.length = m at *
  have m0 : (0 : Int) < (m : Int) := by omega
  go_enter Try.func17, Try.ntmps17
  go_wp2
  go_ret
  exact ⟨rfl, rfl⟩
set_option maxHeartbeats 2000000 in
theorem rincludes_any {w : World} {B b o n m : Nat} {c d : Row} (h1 : RZone w B b n (listOf c m)) (h2 : RZone w B o n (listOf d m)) (hm : 0 < m) (h81 : m ≤ 81) :
    Calls Try.prog 21 #[.pointer (some ⟨b, 0, none⟩), .pointer (some ⟨o, 0, none⟩)] w fun e w' => e = .returned (.bool (rincB c d m)) ∧ Below w.heap.size w w' := by
  have HA := hideD (ralike_same h1 h2)
  have hl1 := listOf_len c m
  have hl2 := listOf_len d m
  have E1 : Hid (∀ k, Calls Try.prog 17 #[.pointer (some ⟨b, 0, none⟩)] (w.drewN k) fun e w' => e = .returned (.bool (c 0 != 1)) ∧ w' = w.drewN k) := fun k => by
    have := rempty_any (h1.past (below_draw w k)) (by omega)
    rw [listOf_get _ _ _ hm] at this
    exact this
  have E2 : Hid (∀ k, Calls Try.prog 17 #[.pointer (some ⟨o, 0, none⟩)] (w.drewN k) fun e w' => e = .returned (.bool (d 0 != 1)) ∧ w' = w.drewN k) := fun k => by
    have := rempty_any (h2.past (below_draw w k)) (by omega)
    rw [listOf_get _ _ _ hm] at this
    exact this
  obtain ⟨g1, cap1, -, a1, -, -, R1⟩ := h1
  obtain ⟨g2, cap2, -, a2, -, -, R2⟩ := h2
  rw [hl1] at a1
  rw [hl2] at a2
  have H1 : Hid (∀ j, j < m → w.cell? ⟨g1, j, none⟩ = some (.int .i32 (c j))) := fun j hj => by
    have := R1 j (by omega)
    rw [listOf_get _ _ _ hj, Nat.zero_add] at this
    exact this
  have H2 : Hid (∀ j, j < m → w.cell? ⟨g2, j, none⟩ = some (.int .i32 (d j))) := fun j hj => by
    have := R2 j (by omega)
    rw [listOf_get _ _ _ hj, Nat.zero_add] at this
    exact this
  clear R1 R2 hl1 hl2
  have m1 : (m : Int) ≤ 81 := by omega
  have RB : Hid (rincB c d m = if (d 0 != 1) = true then true else if (c 0 != 1) = true then false else nless c d m) := rfl
  generalize rincB c d m = q at *
  generalize (d 0 != 1) = y at *
  generalize (c 0 != 1) = x at *
  go_enter Try.func21, Try.ntmps21
  go_wp2_with fail
  refine HA.out.mono ?_
  rintro e w1 ⟨rfl, k, rfl⟩
  cases y with
  | true =>
    have eq : Hid (q = true) := RB.out
    go_wp2_with fail
    refine (E2.out k).mono ?_
    rintro e w1 ⟨rfl, rfl⟩
    go_wp2_with fail
    refine (E2.out k).mono ?_
    rintro e w1 ⟨rfl, rfl⟩
    go_wp2_with fail
    go_ret
    exact ⟨by rw [eq.out]; rfl, below_draw _ _⟩
  | false =>
    cases x with
    | true =>
      have eq : Hid (q = false) := RB.out
      go_wp2_with fail
      refine (E2.out k).mono ?_
      rintro e w1 ⟨rfl, rfl⟩
      go_wp2_with fail
      refine (E1.out k).mono ?_
      rintro e w1 ⟨rfl, rfl⟩
      go_wp2_with fail
      refine (E2.out k).mono ?_
      rintro e w1 ⟨rfl, rfl⟩
      go_wp2_with fail
      go_ret
      exact ⟨by rw [eq.out]; rfl, below_draw _ _⟩
    | false =>
      have eq : Hid (q = nless c d m) := RB.out
      clear RB
      go_wp2_with fail
      refine (E2.out k).mono ?_
      rintro e w1 ⟨rfl, rfl⟩
      go_wp2_with fail
      refine (E1.out k).mono ?_
      rintro e w1 ⟨rfl, rfl⟩
      go_wp2_with fail
      clear E1 E2 HA
      go_loopw [5] (fun s wr => ∃ (I k : Nat), I ≤ m ∧ s = .int .i64 I ∧ wr = w.drewN k ∧ Hid (nless c d I = true)) (fun s _ => m - (intOf s).toNat)
      case atStart => exact ⟨0, k, by omega, rfl, rfl, rfl⟩
      case round =>
        obtain ⟨I, k', hI, rfl, rfl, hq⟩ := hrel
        by_cases ci : I < m
        · have b1 := H1.out I ci
          have b2 := H2.out I ci
          have st : Hid (nless c d (I + 1) = decide (d I ≤ c I)) := by show nless c d (I + 1) = _; simp [nless, hq.out]
          have i0 : (0 : Int) ≤ (I : Int) := by omega
          have i1 : (I : Int) < (m : Int) := by omega
          generalize c I = x at *
          generalize d I = y at *
          by_cases cx : x < y
          · have st3 : Hid (nless c d m = false) := by
              show nless c d m = false
              refine nless_false (k := I + 1) m (by omega) ?_
              rw [st.out, decide_eq_false (by omega)]
            clear st hq
            go_wp2_with fail
            go_quiet (fail)
            go_wp2_with fail
            go_ret
            exact ⟨by rw [eq.out, st3.out]; rfl, below_drewN (below_draw _ _) _⟩
          · have st3 : Hid (nless c d (I + 1) = true) := by show nless c d (I + 1) = true; rw [st.out, decide_eq_true (by omega)]
            clear st hq
            go_wp2_with fail
            go_quiet (fail)
            go_wp2_with fail
            go_roundw
            case rel => exact ⟨I + 1, _, by omega, by go_num, rfl, st3⟩
            case measure => simp [intOf]; omega
        · have st : Hid (nless c d m = true) := by
            obtain rfl : I = m := by omega
            exact hq.out
          clear hq
          go_wp2_with fail
          go_ret
          exact ⟨by rw [eq.out, st.out]; rfl, below_draw _ _⟩
end Go.Proofs.Ytbcfaepmhlanjaa
