/-
  fed: the document's with: a zone with one cell stricter.
-/
import Derived.Test.YtnfkmpickmonoaaGreatQ22
import Derived.Test.YtnfkmpickmonoaaGreatQ16
namespace Go.Proofs.YtnfkmpickmonoaaGreat
open Go.RowKit Go.Shelf
set_option linter.unusedVariables false
set_option maxRecDepth 100000
/-- A zone of the document's, or ErrBound. -/
def RCon (n m : Nat) (o : Option Row) (e : Ending) (W : World) : Prop := ∃ B, RZoneOut W B n e (o.map fun c => listOf c m)
theorem rof_con (n m g off cap : Nat) (c : Row) (w : World) (hn : n ≤ 8) (hm : m = (n + 1) * (n + 1)) (hr : ∀ j, rightB (c j) = true) (hR : RowAt w g off (listOf c m)) :
    Calls Tryz.prog 10 #[.int .i64 (n : Int), .slice (some ⟨g, off, none⟩) m cap] w fun e w' => RCon n m (zoneR n (drf n m (listOf c m))) e w' ∧ Below w.heap.size w w' := by
  have ll := listOf_len c m
  have hi : ∀ j, j < (listOf c m).length → -2147483648 ≤ (listOf c m).getD j 0 ∧ (listOf c m).getD j 0 ≤ 2147483647 := fun j hj => by
    rw [listOf_get _ _ _ (by omega)]
    have := hr j
    unfold rightB at this
    have := of_decide_eq_true this
    omega
  have P := rof_main n g off cap (listOf c m) w hn (by omega) hR hi
  have os := of_same n (listOf c m) (by omega) (fun j hj => (hi j (by omega)).2)
  rw [ll] at P os
  refine P.mono ?_
  rintro e w' ⟨hb, ⟨h, -⟩ | ⟨-, h⟩⟩
  · exfalso
    rw [allRight_of _ _ (fun j hj => by rw [listOf_get _ _ _ hj]; exact hr j)] at h
    cases h
  · rw [os, ← hm] at h
    exact ⟨⟨_, h⟩, hb⟩
set_option maxHeartbeats 2000000 in
theorem rwith_any {w : World} {B b n m i j : Nat} {c : Row} {v : Int} (h1 : RZone w B b n (listOf c m)) (hn : n ≤ 8) (hm : m = (n + 1) * (n + 1)) (hc : ∀ k, rightB (c k) = true) (hi : i ≤ n) (hj : j ≤ n) (hv : rightB v = true) :
    Calls Tryz.prog 97 #[.pointer (some ⟨b, 0, none⟩), .int .i64 (i : Int), .int .i64 (j : Int), .int .i32 v] w fun e w' => RCon n m (conZ n m c (i * (n + 1) + j) v) e w' ∧ Below w.heap.size w w' := by
  have hp : 0 < m := by rw [hm]; exact Nat.mul_pos (by omega) (by omega)
  have m81 : m ≤ 81 := by rw [hm]; exact Nat.mul_le_mul (show n + 1 ≤ 9 by omega) (show n + 1 ≤ 9 by omega)
  have HD : Hid (∀ W, Below w.heap.size w W → Calls Tryz.prog 32 #[.pointer (some ⟨b, 0, none⟩)] W fun e w' => e = .returned (.int .i64 n) ∧ w' = W) := fun W hb => rdim_any (h1.past hb)
  have OF : Hid (∀ g cap w', RowAt w' g 0 (listOf (lowR c (i * (n + 1) + j) v) m) → Calls Tryz.prog 10 #[.int .i64 n, .slice (some ⟨g, 0, none⟩) m cap] w' fun e w'' => RCon n m (conZ n m c (i * (n + 1) + j) v) e w'' ∧ Below w'.heap.size w' w'') := fun g cap w' hR =>
    rof_con n m g 0 cap _ w' hn hm (low_right hc hv) hR
  obtain ⟨g1, cap1, n1, a1, -, -, R1⟩ := h1
  have hl1 := listOf_len c m
  rw [hl1] at a1
  have CE := hideD (rcells_own b g1 n cap1 m (listOf c m) w hl1 m81 hp a1 R1)
  have l1 := pos_lt hi hj
  rw [← hm] at l1
  have e1 : IntKind.i64.wrap ((i : Int) * ((n : Int) + 1)) = ((i * (n + 1) : Nat) : Int) := by
    have : (i : Int) * ((n : Int) + 1) = ((i * (n + 1) : Nat) : Int) := by simp
    rw [this, IntKind.wrap_i64]
    generalize i * (n + 1) = z at *
    omega
  have HRC : Hid (∀ (w' : World) g, RowAt w' g 0 (listOf c m) → ∀ k, k < m → w'.cell? ⟨g, k, none⟩ = some (.int .i32 (c k))) := fun w' g h k hk => by
    have := h k (by rw [listOf_len]; exact hk)
    rw [listOf_get _ _ _ hk, Nat.zero_add] at this
    exact this
  have HRS : Hid (∀ (w' : World) g, (∀ k, k < m → w'.cell? ⟨g, k, none⟩ = some (.int .i32 (lowR c (i * (n + 1) + j) v k))) → RowAt w' g 0 (listOf (lowR c (i * (n + 1) + j) v) m)) := fun w' g h k hk => by
    rw [listOf_len] at hk
    rw [Nat.zero_add, h k hk, listOf_get _ _ _ hk]
  generalize conZ n m c (i * (n + 1) + j) v = Z at *
  generalize ea : i * (n + 1) = a at *
  have e3 : (0 : Int) ≤ (a : Int) := by omega
  have e5 : (a : Int) + (j : Int) < (m : Int) := by omega
  have e8 : (m : Int) ≤ 81 := by omega
  obtain ⟨x, hx⟩ : ∃ x, c (a + j) = x := ⟨_, rfl⟩
  have HX := hideD hx
  clear hm R1 a1 n1 hl1 hv hc ea hi hj hx
  have ll : ∀ (k : Nat), lowR c (a + j) v k = if k = a + j then min x v else c k := fun k => by
    unfold lowR
    by_cases e : k = a + j
    · subst e; rw [if_pos rfl, if_pos rfl, HX.out]
    · rw [if_neg e, if_neg e]
  have LL := hideD ll
  clear ll
  have FIN : Hid (∀ (cap : Nat) (w2 : World) (g : Nat), w.heap.size ≤ g → Below w.heap.size w w2 → (∀ k, k < m → w2.cell? ⟨g, k, none⟩ = some (.int .i32 (lowR c (a + j) v k))) → Calls Tryz.prog 10 #[.int .i64 n, .slice (some ⟨g, 0, none⟩) m cap] w2 fun e w'' => RCon n m Z e w'' ∧ Below w.heap.size w w'') := fun cap w2 g _ hb h => by
    refine (OF.out g cap w2 (HRS.out w2 g h)).mono ?_
    rintro e w3 ⟨h1, h2⟩
    exact ⟨h1, hb.trans (h2.mono hb.size)⟩
  clear OF HRS
  by_cases cv : v < x
  · have RN : Hid (∀ (W : World) (g : Nat), (∀ k, k < m → W.cell? ⟨g, k, none⟩ = some (.int .i32 (c k))) → ∀ k, k < m → (W.setCell ⟨g, a + j, none⟩ (.int .i32 v)).cell? ⟨g, k, none⟩ = some (.int .i32 (lowR c (a + j) v k))) := fun W g h k hk => by
      rw [LL.out k]
      by_cases q : k = a + j
      · subst q
        rw [World.cell?_setCell_same _ _ _ (h _ hk), if_pos rfl, Int.min_eq_right (by omega)]
      · rw [World.cell?_setCell_other _ _ _ _ (by intro e; injection e; omega), if_neg q]
        exact h k hk
    clear LL
    go_enter Tryz.func97, Tryz.ntmps97
    go_wp2_with fail
    refine CE.out.mono ?_
    rintro e w1 ⟨⟨g, cap, rfl, lg, lt, row, fz⟩, hb⟩
    have B1 := hideD hb
    have RW := hideD (HRC.out _ _ row)
    have FZ := hideD fz
    have b1 := RW.out (a + j) (by omega)
    rw [HX.out] at b1
    have f1 := FZ.out (a + j)
    clear row fz hb CE HRC
    go_wp2_with fail
    refine (HD.out _ B1.out).mono ?_
    rintro e w2 ⟨rfl, e2⟩
    obtain rfl := e2.symm
    clear e2
    have R2 := hideD (RN.out w1 g RW.out)
    have B2 : Hid (Below w.heap.size w (w1.setCell ⟨g, a + j, none⟩ (.int .i32 v))) := Below.setCell (p := ⟨g, a + j, none⟩) B1.out lg _
    clear RN RW FZ B1
    go_wp2_with fail
    refine (HD.out _ B2.out).mono ?_
    rintro e w2 ⟨rfl, e2⟩
    obtain rfl := e2.symm
    clear e2
    have FF := hideD (FIN.out cap _ g lg B2.out R2.out)
    clear FIN R2 B2 HD
    go_wp2_with fail
    refine FF.out.mono ?_
    rintro e w3 ⟨⟨B', hz⟩, hb⟩
    have BE := hideD hb
    clear FF hb
    cases Z with
    | none =>
      obtain rfl := hz
      go_wp2_with fail
      exact bodyPost_ret (v := .tuple #[.pointer none, .int .i64 10]) (by simp [results, Tryz.results97, go_sem]) rfl ⟨⟨0, rfl⟩, BE.out⟩
    | some o =>
      obtain ⟨b', rfl, hz⟩ := hz
      have HZ := hideD hz
      clear hz
      go_wp2_with fail
      exact bodyPost_ret (v := .tuple #[.pointer (some ⟨b', 0, none⟩), .int .i64 0]) (by simp [results, Tryz.results97, go_sem]) rfl ⟨⟨_, b', rfl, HZ.out⟩, BE.out⟩
  · have RN : Hid (∀ (W : World) (g : Nat), (∀ k, k < m → W.cell? ⟨g, k, none⟩ = some (.int .i32 (c k))) → ∀ k, k < m → W.cell? ⟨g, k, none⟩ = some (.int .i32 (lowR c (a + j) v k))) := fun W g h k hk => by
      rw [LL.out k]
      by_cases q : k = a + j
      · subst q
        rw [if_pos rfl, Int.min_eq_left (by omega), h _ hk, HX.out]
      · rw [if_neg q]
        exact h k hk
    clear LL
    go_enter Tryz.func97, Tryz.ntmps97
    go_wp2_with fail
    refine CE.out.mono ?_
    rintro e w1 ⟨⟨g, cap, rfl, lg, lt, row, fz⟩, hb⟩
    have B1 := hideD hb
    have RW := hideD (HRC.out _ _ row)
    have b1 := RW.out (a + j) (by omega)
    rw [HX.out] at b1
    clear row fz hb CE HRC
    go_wp2_with fail
    refine (HD.out _ B1.out).mono ?_
    rintro e w2 ⟨rfl, e2⟩
    obtain rfl := e2.symm
    clear e2
    have FF := hideD (FIN.out cap _ g lg B1.out (RN.out w1 g RW.out))
    have HD1 := hideD (HD.out _ B1.out)
    clear RN RW B1 FIN HD
    go_wp2_with fail
    refine HD1.out.mono ?_
    rintro e w2 ⟨rfl, e2⟩
    obtain rfl := e2.symm
    clear e2 HD1
    go_wp2_with fail
    refine FF.out.mono ?_
    rintro e w3 ⟨⟨B', hz⟩, hb⟩
    have BE := hideD hb
    clear FF hb
    cases Z with
    | none =>
      obtain rfl := hz
      go_wp2_with fail
      exact bodyPost_ret (v := .tuple #[.pointer none, .int .i64 10]) (by simp [results, Tryz.results97, go_sem]) rfl ⟨⟨0, rfl⟩, BE.out⟩
    | some o =>
      obtain ⟨b', rfl, hz⟩ := hz
      have HZ := hideD hz
      clear hz
      go_wp2_with fail
      exact bodyPost_ret (v := .tuple #[.pointer (some ⟨b', 0, none⟩), .int .i64 0]) (by simp [results, Tryz.results97, go_sem]) rfl ⟨⟨_, b', rfl, HZ.out⟩, BE.out⟩
end Go.Proofs.YtnfkmpickmonoaaGreat
