/-
  The contracts of keeps and valuation of the statements of dbm.
-/
import Derived.Test.YtmnckhchpbdfjaaFc
import Derived.Test.YtmnckhchpbdfjaaEf
namespace Go.Proofs.Ytmnckhchpbdfjaa
open Go.RowKit Go.Shelf
set_option linter.unusedVariables false
set_option maxRecDepth 100000
/-- Do the numbers v keep all cells of a matrix, g units being 1? -/
def kRow (n : Nat) (l : List Int) (v : Nat → Int) (g : Int) (i : Nat) : Bool := (List.range (n + 1)).all fun j => holdsB (l.getD (i * (n + 1) + j) 0) (v i - v j) g
def kB (n : Nat) (l : List Int) (v : Nat → Int) (g : Int) : Bool := (List.range (n + 1)).all fun i => kRow n l v g i
theorem kRow_iff (n : Nat) (l : List Int) (v : Nat → Int) (g : Int) (i : Nat) : kRow n l v g i = true ↔ ∀ j, j ≤ n → holdsB (l.getD (i * (n + 1) + j) 0) (v i - v j) g = true := by
  unfold kRow
  rw [List.all_eq_true]
  constructor
  · intro h j hj
    exact h j (List.mem_range.2 (by omega))
  · intro h j hj
    have := List.mem_range.1 hj
    exact h j (by omega)
theorem kB_iff (n : Nat) (l : List Int) (v : Nat → Int) (g : Int) : kB n l v g = true ↔ ∀ i j, i ≤ n → j ≤ n → holdsB (l.getD (i * (n + 1) + j) 0) (v i - v j) g = true := by
  unfold kB
  rw [List.all_eq_true]
  constructor
  · intro h i j hi hj
    exact (kRow_iff n l v g i).1 (h i (List.mem_range.2 (by omega))) j hj
  · intro h i hi
    have := List.mem_range.1 hi
    exact (kRow_iff n l v g i).2 fun j hj => h i j (by omega) hj
theorem kB_no (n : Nat) (l : List Int) (v : Nat → Int) (g : Int) (i j : Nat) (hi : i ≤ n) (hj : j ≤ n) (h : holdsB (l.getD (i * (n + 1) + j) 0) (v i - v j) g = false) : kB n l v g = false := by
  cases e : kB n l v g
  · rfl
  · have := (kB_iff n l v g).1 e i j hi hj
    rw [h] at this
    cases this
/-- A row of numbers of 64 bits. -/
def ValAt (w : World) (b n : Nat) (v : Nat → Int) : Prop := ∀ i, i ≤ n → w.cell? ⟨b, i, none⟩ = some (.int .i64 (v i))
set_option maxHeartbeats 4000000 in
theorem keeps_any (n m cb off cap gv capv : Nat) (l : List Int) (v : Nat → Int) (g : Int) (w : World) (hn : n ≤ 8) (hm : m = (n + 1) * (n + 1)) (hl : l.length = m) (hR : RowAt w cb off l) (hV : ValAt w gv n v)
    (hr : ∀ j, j < m → rightB (l.getD j 0) = true) (hv : ∀ i, i ≤ n → 0 ≤ v i ∧ v i ≤ 4294967296) (g0 : 1 ≤ g) (g1 : g ≤ 9) :
    Calls Try.prog 12 #[.int .i64 n, .slice (some ⟨cb, off, none⟩) m cap, .slice (some ⟨gv, 0, none⟩) (n + 1 : Nat) capv, .int .i64 g] w fun e w' => e = .returned (.bool (kB n l v g)) ∧ ∃ k, w' = w.drewN k := by
  have m81 : m ≤ 81 := by rw [hm]; exact Nat.mul_le_mul (show n + 1 ≤ 9 by omega) (show n + 1 ≤ 9 by omega)
  have LT : Hid (∀ i j, i ≤ n → j ≤ n → i * (n + 1) + j < m) := fun i j hi hj => by rw [hm]; exact pos_lt hi hj
  have HC : Hid (∀ k, k < m → w.cell? ⟨cb, off + k, none⟩ = some (.int .i32 (l.getD k 0))) := fun k hk => hR k (by omega)
  have HV := hideD hV
  have HR := hideD hr
  have HB := hideD hv
  have KN := hideD (kB_no n l v g)
  have KI := hideD (kB_iff n l v g).2
  clear hm hl hR hV hr hv
  have m1 : (m : Int) ≤ 81 := by omega
  go_enter Try.func12, Try.ntmps12
  go_wp2_with fail
  go_loopw [9] (fun s wr => ∃ (I k : Nat), I ≤ n + 1 ∧ s = .int .i64 I ∧ wr = w.drewN k ∧ Hid (∀ i j, i < I → j ≤ n → holdsB (l.getD (i * (n + 1) + j) 0) (v i - v j) g = true)) (fun s _ => n + 1 - (intOf s).toNat)
  case atStart => exact ⟨0, 0, by omega, rfl, rfl, fun i j h => by omega⟩
  case round =>
    obtain ⟨I, k, hI, rfl, rfl, hq⟩ := hrel
    by_cases ci : I ≤ n
    · go_wp2_with fail
      go_loopw [10] (fun s wr => ∃ (J k : Nat), J ≤ n + 1 ∧ s = .int .i64 J ∧ wr = w.drewN k ∧ Hid (∀ j, j < J → holdsB (l.getD (I * (n + 1) + j) 0) (v I - v j) g = true)) (fun s _ => n + 1 - (intOf s).toNat)
      case atStart => exact ⟨0, k, by omega, rfl, rfl, fun j h => by omega⟩
      case round =>
        obtain ⟨J, k', hJ, rfl, hwr, hp⟩ := hrel
        have HW := hideD hwr
        clear hwr
        by_cases cj : J ≤ n
        · have lt := LT.out I J ci cj
          have a1 : wr.cell? ⟨cb, off + (I * (n + 1) + J), none⟩ = some (.int .i32 (l.getD (I * (n + 1) + J) 0)) := by rw [HW.out]; exact HC.out _ lt
          have a2 : wr.cell? ⟨gv, I, none⟩ = some (.int .i64 (v I)) := by rw [HW.out]; exact HV.out I ci
          have a3 : wr.cell? ⟨gv, J, none⟩ = some (.int .i64 (v J)) := by rw [HW.out]; exact HV.out J cj
          have b1 := HB.out I ci
          have b2 := HB.out J cj
          have e1 : IntKind.i64.wrap ((I : Int) * ((n : Int) + 1)) = ((I * (n + 1) : Nat) : Int) := by
            have : (I : Int) * ((n : Int) + 1) = ((I * (n + 1) : Nat) : Int) := by simp
            rw [this, IntKind.wrap_i64]
            generalize I * (n + 1) = z at *
            omega
          have HH : Hid (∀ w, Calls Try.prog 33 #[.int .i32 (l.getD (I * (n + 1) + J) 0), .int .i64 (v I - v J), .int .i64 g] w fun e w' => e = .returned (.bool (holdsB (l.getD (I * (n + 1) + J) 0) (v I - v J) g)) ∧ w' = w) := fun w => rholds_any _ _ _ w (HR.out _ lt) (by omega) (by omega) g0 (by omega)
          have NO := hideD (KN.out I J ci cj)
          have YES : Hid (holdsB (l.getD (I * (n + 1) + J) 0) (v I - v J) g = true → ∀ j, j < J + 1 → holdsB (l.getD (I * (n + 1) + j) 0) (v I - v j) g = true) := fun e j hj => by
            by_cases q : j = J
            · subst q; exact e
            · exact hp.out j (by omega)
          obtain ⟨b10, b11⟩ := b1
          obtain ⟨b20, b21⟩ := b2
          generalize l.getD (I * (n + 1) + J) 0 = x at *
          generalize v I = y at *
          generalize v J = z at *
          generalize I * (n + 1) = a at *
          have e0 : IntKind.i64.wrap ((n : Int) + 1) = (n : Int) + 1 := by rw [IntKind.wrap_i64]; omega
          have e2 : IntKind.i64.wrap ((a : Int) + (J : Int)) = (a : Int) + (J : Int) := by rw [IntKind.wrap_i64]; omega
          have e4 : IntKind.i64.wrap (y - z) = y - z := by rw [IntKind.wrap_i64]; omega
          have e8 : (0 : Int) ≤ (a : Int) + (J : Int) := by omega
          have e9 : ((a : Int) + (J : Int)).toNat = a + J := by omega
          have e3 : (0 : Int) ≤ (a : Int) := by omega
          have e5 : (a : Int) + (J : Int) < (m : Int) := by omega
          have e6 : (I : Int) < (n : Int) + 1 := by omega
          have e7 : (J : Int) < (n : Int) + 1 := by omega
          have e10 : (0 : Int) ≤ (I : Int) := by omega
          have e11 : (0 : Int) ≤ (J : Int) := by omega
          cases eh : holdsB x (y - z) g with
          | false =>
            rw [eh] at HH
            have NO' := hideD (NO.out eh)
            clear eh YES NO
            go_wp2_with fail
            go_quiet ((go_at_call 33; exact Calls.quiet_of_same (HH.out _)))
            go_wp2_with fail
            go_ret
            exact ⟨by rw [NO'.out]; rfl, _, by rw [HW.out]; exact World.drewN_drewN _ _ _⟩
          | true =>
            rw [eh] at HH
            have YES' := hideD (YES.out eh)
            clear eh YES NO
            go_wp2_with fail
            go_quiet ((go_at_call 33; exact Calls.quiet_of_same (HH.out _)))
            go_wp2_with fail
            go_roundw
            case rel => exact ⟨J + 1, _, by omega, by go_num, by rw [HW.out]; exact World.drewN_drewN _ _ _, YES'⟩
            case measure => simp [intOf]; omega
        · have hq' : Hid (∀ i j, i < I + 1 → j ≤ n → holdsB (l.getD (i * (n + 1) + j) 0) (v i - v j) g = true) := fun i j hi hj => by
            by_cases q : i = I
            · subst q; exact hp.out j (by omega)
            · exact hq.out i j (by omega) hj
          go_wp2_with fail
          go_roundw
          case rel => exact ⟨I + 1, k', by omega, by go_num, HW.out, hq'⟩
          case measure => simp [intOf]; omega
    · have Y := hideD (KI.out (fun i j hi hj => hq.out i j (by omega) hj))
      go_wp2_with fail
      go_ret
      exact ⟨by rw [Y.out]; rfl, k, rfl⟩
end Go.Proofs.Ytmnckhchpbdfjaa
