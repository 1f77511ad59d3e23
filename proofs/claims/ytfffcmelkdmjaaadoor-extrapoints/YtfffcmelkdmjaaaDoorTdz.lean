/-
  The document's forget: cells in which nothing is said of a clock.
-/
import Derived.Test.YtfffcmelkdmjaaaDoorIhz
import Derived.Test.YtfffcmelkdmjaaaDoorTcz
namespace Go.Proofs.YtfffcmelkdmjaaaDoor
open Go.RowKit
set_option linter.unusedVariables false
set_option maxRecDepth 100000
theorem wrap_small {k : Nat} (h : k ≤ 1000000) : wrap64 (k : Int) = (k : Int) := by unfold wrap64; omega
theorem wrap_smallK {k : Nat} (h : k ≤ 1000000) : IntKind.i64.wrap (k : Int) = (k : Int) := by rw [IntKind.wrap_i64]; omega
def fgR (n x : Nat) (c : Row) : Nat → Row
  | 0 => c
  | I + 1 => if I = x then fgR n x c I else updR (updR (fgR n x c I) (x * (n + 1) + I) 2147483647) (I * (n + 1) + x) (c (I * (n + 1)))
set_option maxHeartbeats 8000000 in
theorem forget_any (n m x cb cap : Nat) (c : Row) (w : World) (hn : n ≤ 8) (hm : m = (n + 1) * (n + 1)) (hx : x ≤ n) (hR : ∀ k, k < m → w.cell? ⟨cb, k, none⟩ = some (.int .i32 (c k))) (hcb : cb < w.heap.size) :
    Calls Tryd.prog 129 #[.int .i64 n, .slice (some ⟨cb, 0, none⟩) m cap, .int .i64 x] w fun e w' => (∃ g cap', e = .returned (.slice (some ⟨g, 0, none⟩) m cap') ∧ w.heap.size ≤ g ∧ g < w'.heap.size ∧ Hid (∀ k, k < m → w'.cell? ⟨g, k, none⟩ = some (.int .i32 (fgR n x c (n + 1) k))) ∧ Hid (∀ j, w'.frozen? ⟨g, j, none⟩ = false)) ∧ Below w.heap.size w w' := by
  have m81 : m ≤ 81 := by rw [hm]; exact Nat.mul_le_mul (show n + 1 ≤ 9 by omega) (show n + 1 ≤ 9 by omega)
  have mp : 0 < m := by rw [hm]; exact Nat.mul_pos (by omega) (by omega)
  obtain ⟨i0, hi, hz0, hz1, hz2⟩ := info_parts info_bd
  have hl := listOf_len c m
  have HN : Hid (∀ j u, ((listOf c m).map (Value.int .i32))[j]? = some u → w.cell? ((⟨cb, 0, none⟩ : Addr).add j) = some u) := by
    intro j u hu
    rw [Addr.add_lit, Nat.zero_add]
    by_cases hj : j < m
    · rw [hR j hj]
      simp [listOf, hj] at hu
      simp [hu]
    · rw [List.getElem?_eq_none (by simp [hl]; omega)] at hu
      cases hu
  have HR := hideD hR
  have HP : Hid (∀ i j, i ≤ n → j ≤ n → i * (n + 1) + j < m) := fun i j hi hj => by rw [hm]; exact pos_lt hi hj
  have NX : Hid (∀ I, fgR n x c (I + 1) = if I = x then fgR n x c I else updR (updR (fgR n x c I) (x * (n + 1) + I) 2147483647) (I * (n + 1) + x) (c (I * (n + 1)))) := fun I => rfl
  have F0e : Hid (fgR n x c 0 = c) := rfl
  have HMul : Hid (∀ i : Nat, (i : Int) * ((n : Int) + 1) = ((i * (n + 1) : Nat) : Int)) := fun i => by rw [Int.natCast_mul]; rfl
  clear hR hm
  go_enter Tryd.func129, Tryd.ntmps129
  go_wp2_with (at_builtin; refine wpList_append_own _ rfl _ _ 22 rfl w.heap.size 79 i0 (.int .i32 0) 1 4 Tryd.underlying22 hi hz0 hz1 hz2 rfl (by decide) _ 0 [] rfl (World.ownsRow_nil _ _ _ _) ⟨cb, 0, none⟩ m cap ((listOf c m).map (Value.int .i32)) rfl (by simp [hl]) HN.out (fun x hx => by obtain ⟨z, _, rfl⟩ := List.mem_map.1 hx; rfl) (by unfold maxLen; omega) (by omega) (Nat.le_refl _) ?_; intro v' w2 hown hgrow hnil)
  have hb2 : Below w.heap.size w w2 := (Below.refl _ _).grown hgrow (Nat.le_refl _) (by intro k hk; cases hk)
  have hown' : w2.ownsRow w.heap.size 79 1 v' m ((listOf c m).map (Value.int .i32)) := by simpa using hown
  obtain ⟨m', hm'⟩ : ∃ m', m = m' + 1 := ⟨m - 1, by omega⟩
  have hown2 := hown'
  rw [hm'] at hown2
  obtain ⟨g, cap', rfl⟩ := own_form hown2
  have lt := hown'.lt g rfl
  rw [← hm'] at *
  have F0 : Hid (∀ k, k < m → w2.cell? ⟨g, k, none⟩ = some (.int .i32 (fgR n x c 0 k))) := fun k hk => by
    rw [F0e.out]
    have := hown'.cellAt k (by omega)
    rw [this]
    simp [listOf, hk]
  have Z0 : Hid (∀ j, w2.frozen? ⟨g, j, none⟩ = false) := fun j => hown'.frozenAt j
  have B0 := hideD hb2
  have G0 := lt.1
  have G1 := hideD lt.2
  clear hown hown' hown2 hgrow hnil hb2 lt HN hm'
  go_wp2_with fail
  go_loopw [8] (fun s wr => ∃ (I : Nat), I ≤ n + 1 ∧ s = .int .i64 (I : Int) ∧ Hid (∀ k, k < m → wr.cell? ⟨g, k, none⟩ = some (.int .i32 (fgR n x c I k))) ∧ Hid (∀ j, wr.frozen? ⟨g, j, none⟩ = false) ∧ Hid (Below w.heap.size w wr) ∧ Hid (g < wr.heap.size)) (fun s _ => n + 1 - (intOf s).toNat)
  case atStart => exact ⟨0, by omega, rfl, F0, Z0, B0, G1⟩
  case round =>
    obtain ⟨I, hI, rfl, F, Z, B, G⟩ := hrel
    clear F0 Z0 B0 G1
    by_cases ci : I ≤ n
    · have ci1 : (I : Int) ≤ (n : Int) := by omega
      have nx := hideD (NX.out I)
      by_cases ix : I = x
      · subst ix
        rw [if_pos rfl] at nx
        rw [← nx.out] at F
        clear nx
        go_wp2_with fail
        go_roundw
        case rel => exact ⟨I + 1, by omega, by go_num, F, Z, B, G⟩
        case measure => simp [intOf]; omega
      · have ix1 : ¬ (I : Int) = (x : Int) := by omega
        have ix2 : ((I : Int) == (x : Int)) = false := by simpa using ix1
        rw [if_neg ix] at nx
        have p1 := HP.out x I hx ci
        have p2 := HP.out I x ci hx
        have p3 := HP.out I 0 ci (by omega)
        have A1 := hideD (HMul.out x)
        have A2 := hideD (HMul.out I)
        generalize x * (n + 1) = X at *
        generalize I * (n + 1) = Y at *
        have q1 : (0 : Int) ≤ ((X + I : Nat) : Int) := by omega
        have q2 : ((X + I : Nat) : Int) < (m : Int) := by omega
        have q3 : (0 : Int) ≤ ((Y + x : Nat) : Int) := by omega
        have q4 : ((Y + x : Nat) : Int) < (m : Int) := by omega
        have q5 : (0 : Int) ≤ (Y : Int) := by omega
        have q6 : (Y : Int) < (m : Int) := by omega
        have s1 : X ≤ 1000000 := by omega
        have s2 : Y ≤ 1000000 := by omega
        have s3 : X + I ≤ 1000000 := by omega
        have s4 : Y + x ≤ 1000000 := by omega
        have s5 : n + 1 ≤ 1000000 := by omega
        have E1 : Hid (wrap64 ((n : Int) + 1) = (n : Int) + 1) := wrap_small (k := n + 1) s5
        have E2 : Hid (wrap64 ((x : Int) * ((n : Int) + 1)) = (X : Int)) := by show _ = _; rw [A1.out]; exact wrap_small s1
        have E3 : Hid (wrap64 ((X : Int) + (I : Int)) = ((X + I : Nat) : Int)) := wrap_small (k := X + I) s3
        have E4 : Hid (wrap64 ((I : Int) * ((n : Int) + 1)) = (Y : Int)) := by show _ = _; rw [A2.out]; exact wrap_small s2
        have E5 : Hid (wrap64 ((Y : Int) + (x : Int)) = ((Y + x : Nat) : Int)) := wrap_small (k := Y + x) s4
        clear s1 s2 s3 s4 s5
        have F1 : Hid (∀ k, k < m → (wr.setCell ⟨g, X + I, none⟩ (.int .i32 2147483647)).cell? ⟨g, k, none⟩ = some (.int .i32 (updR (fgR n x c I) (X + I) 2147483647 k))) := fun k hk => by
          unfold updR
          by_cases e : k = X + I
          · subst e; rw [if_pos rfl]; exact World.cell?_setCell_same _ _ _ (F.out _ hk)
          · rw [if_neg e, World.cell?_setCell_other _ _ _ _ (by intro h; injection h; omega)]; exact F.out k hk
        have F2 : Hid (∀ k, k < m → ((wr.setCell ⟨g, X + I, none⟩ (.int .i32 2147483647)).setCell ⟨g, Y + x, none⟩ (.int .i32 (c Y))).cell? ⟨g, k, none⟩ = some (.int .i32 (fgR n x c (I + 1) k))) := fun k hk => by
          rw [nx.out]
          show _ = some (Value.int .i32 (updR (updR (fgR n x c I) (X + I) 2147483647) (Y + x) (c Y) k))
          by_cases e : k = Y + x
          · subst e
            rw [World.cell?_setCell_same _ _ _ (F1.out _ hk)]
            unfold updR
            rw [if_pos rfl]
          · rw [World.cell?_setCell_other _ _ _ _ (by intro h; injection h; omega), F1.out k hk]
            show _ = some (Value.int .i32 (if k = Y + x then c Y else updR (fgR n x c I) (X + I) 2147483647 k))
            rw [if_neg e]
        have f1 := F.out (X + I) p1
        have z1 := Z.out (X + I)
        have f2 := F1.out (Y + x) p2
        have z2 : (wr.setCell ⟨g, X + I, none⟩ (.int .i32 2147483647)).frozen? ⟨g, Y + x, none⟩ = false := by rw [World.frozen?_setCell]; exact Z.out _
        have B1 := hideD (B.out.setCell (p := ⟨g, X + I, none⟩) G0 (.int .i32 2147483647))
        have src : (wr.setCell ⟨g, X + I, none⟩ (.int .i32 2147483647)).cell? ⟨cb, Y, none⟩ = some (.int .i32 (c Y)) := (B1.out.cell (p := ⟨cb, Y, none⟩) hcb).trans (HR.out Y p3)
        have B2 := hideD (B1.out.setCell (p := ⟨g, Y + x, none⟩) G0 (.int .i32 (c Y)))
        have Z2 : Hid (∀ j, ((wr.setCell ⟨g, X + I, none⟩ (.int .i32 2147483647)).setCell ⟨g, Y + x, none⟩ (.int .i32 (c Y))).frozen? ⟨g, j, none⟩ = false) := fun j => by rw [World.frozen?_setCell, World.frozen?_setCell]; exact Z.out j
        have G2 : Hid (g < ((wr.setCell ⟨g, X + I, none⟩ (.int .i32 2147483647)).setCell ⟨g, Y + x, none⟩ (.int .i32 (c Y))).heap.size) := by show _ < _; rw [World.size_setCell, World.size_setCell]; exact G.out
        generalize hP : X + I = P1 at *
        generalize hQ : Y + x = P2 at *
        clear F F1 Z B B1 G nx hP hQ p1 p2 p3
        generalize c Y = y at *
        have a0 := E1.out
        have a2 := E2.out
        have a3 := E3.out
        have f2H := hideD f2
        have z2H := hideD z2
        have srcH := hideD src
        clear A1 A2 E1 E2 E3 f2 z2 src
        have Q3 := hideD q3
        have Q4 := hideD q4
        have Q5 := hideD q5
        have Q6 := hideD q6
        clear HP HR NX F0e HMul hi hz0 hz1 hz2 mp m81 hl q3 q4 q5 q6
        go_upto_region 8 with (fail)
        clear q1 q2
        clear a2 a3 f1 z1
        have b2 := E4.out
        have b3 := E5.out
        have q3 := Q3.out
        have q4 := Q4.out
        have q5 := Q5.out
        have q6 := Q6.out
        clear Q3 Q4 Q5 Q6
        have f2 := f2H.out
        have z2 := z2H.out
        have src := srcH.out
        clear E4 E5 f2H z2H srcH
        generalize wr.setCell ⟨g, P1, none⟩ (.int .i32 2147483647) = W1 at *
        clear G0 hcb
        go_upto_region 5 with (fail)
        clear a0 b2 b3 f2 z2 src q3 q4 q5 q6
        go_wp2_with fail
        go_roundw
        case rel => exact ⟨I + 1, by omega, by go_num, F2, Z2, B2, G2⟩
        case measure => simp [intOf]; omega
    · have eI : I = n + 1 := by omega
      have F' : Hid (∀ k, k < m → wr.cell? ⟨g, k, none⟩ = some (.int .i32 (fgR n x c (n + 1) k))) := by rw [← eI]; exact F
      have ci1 : ¬ (I : Int) ≤ (n : Int) := by omega
      clear eI F NX
      go_wp2_with fail
      go_ret
      exact ⟨⟨g, ⟨cap', rfl⟩, G0, G.out, F', Z⟩, B.out⟩
end Go.Proofs.YtfffcmelkdmjaaaDoor
