/-
  The document's alike, Empty, Includes, Equal, Common, Meets.
-/
import Derived.Test.YtnfkmpickmonoaaGreatQ10
namespace Go.Proofs.YtnfkmpickmonoaaGreat
open Go.RowKit
set_option linter.unusedVariables false
set_option maxRecDepth 100000
theorem RZone.past {w w' : World} {B r n : Nat} {l : List Int} (h : RZone w B r n l) (hb : Below w.heap.size w w') : RZone w' B r n l := by
  obtain ⟨g, cap, h0, h1, h2, h3, h4⟩ := h
  exact ⟨g, cap, kc _ _ hb h0, kc _ _ hb h1, h2, h3, fun j hj => kc _ _ hb (h4 j hj)⟩
theorem ralike_raw (b o : Nat) (n m : Int) (w : World) (h1 : w.cell? ⟨b, 0, none⟩ = some (.int .i64 n)) (h2 : w.cell? ⟨o, 0, none⟩ = some (.int .i64 m)) :
    Calls Tryz.prog 124 #[.pointer (some ⟨b, 0, none⟩), .pointer (some ⟨o, 0, none⟩)] w fun e w' => e = .returned (.bool (n == m)) ∧ ∃ k, w' = w.drewN k := by
  go_enter Tryz.func124, Tryz.ntmps124
  go_wp2_with fail
  go_quiet (fail)
  go_wp2_with fail
  go_ret
  exact ⟨rfl, _, rfl⟩
theorem ralike_same {w : World} {B b o n : Nat} {l m : List Int} (h1 : RZone w B b n l) (h2 : RZone w B o n m) :
    Calls Tryz.prog 124 #[.pointer (some ⟨b, 0, none⟩), .pointer (some ⟨o, 0, none⟩)] w fun e w' => e = .returned (.bool true) ∧ ∃ k, w' = w.drewN k := by
  obtain ⟨_, _, a, _⟩ := h1
  obtain ⟨_, _, b, _⟩ := h2
  have := ralike_raw _ _ n n w a b
  simpa using this
theorem rempty_any {w : World} {B b n : Nat} {l : List Int} (h : RZone w B b n l) (hl : 0 < l.length) :
    Calls Tryz.prog 33 #[.pointer (some ⟨b, 0, none⟩)] w fun e w' => e = .returned (.bool (l.getD 0 0 != 1)) ∧ w' = w := by
  obtain ⟨g, cap, h0, h1, -, -, h4⟩ := h
  have a0 := h4 0 hl
  clear h4 h0
  generalize l.getD 0 0 = x at *
  generalize l.length = m at *
  have m0 : (0 : Int) < (m : Int) := by omega
  go_enter Tryz.func33, Tryz.ntmps33
  go_wp2
  go_ret
  exact ⟨rfl, rfl⟩
end Go.Proofs.YtnfkmpickmonoaaGreat

/-
  The document's Equal, Common, Meets.
-/
namespace Go.Proofs.YtnfkmpickmonoaaGreat
open Go.RowKit
set_option linter.unusedVariables false
set_option maxRecDepth 100000
/-! ### Common -/
set_option maxHeartbeats 1000000 in
theorem rcells_own (b g n cap m : Nat) (l : List Int) (w : World) (hl : l.length = m) (h81 : m ≤ 81) (hp : 0 < m) (h1 : w.cell? ⟨b, 1, none⟩ = some (.slice (some ⟨g, 0, none⟩) m cap)) (hR : RowAt w g 0 l) :
    Calls Tryz.prog 127 #[.pointer (some ⟨b, 0, none⟩)] w fun e w' => (∃ g' cap', e = .returned (.slice (some ⟨g', 0, none⟩) m cap') ∧ w.heap.size ≤ g' ∧ g' < w'.heap.size ∧ RowAt w' g' 0 l ∧ ∀ j, w'.frozen? ⟨g', j, none⟩ = false) ∧ Below w.heap.size w w' := by
  obtain ⟨i0, hi, hz0, hz1, hz2⟩ := info_parts info_bd
  have HN : Hid (∀ j u, (l.map (Value.int .i32))[j]? = some u → w.cell? ((⟨g, 0, none⟩ : Addr).add j) = some u) := by
    intro j u hu
    rw [Addr.add_lit]
    by_cases hj : j < l.length
    · rw [hR j hj]
      simp [hj] at hu
      simp [List.getD, hj, hu]
    · rw [List.getElem?_eq_none (by simp; omega)] at hu
      cases hu
  clear hR
  go_enter Tryz.func127, Tryz.ntmps127
  go_wp2_with (at_builtin; refine wpList_append_own _ rfl _ _ 26 rfl w.heap.size 79 i0 (.int .i32 0) 1 4 Tryz.underlying26 hi hz0 hz1 hz2 rfl (by decide) _ 0 [] rfl (World.ownsRow_nil _ _ _ _) ⟨g, 0, none⟩ m cap (l.map (Value.int .i32)) rfl (by simp [hl]) HN.out (fun x hx => by obtain ⟨z, _, rfl⟩ := List.mem_map.1 hx; rfl) (by unfold maxLen; omega) (by omega) (Nat.le_refl _) ?_; intro v' w2 hown hgrow hnil)
  have hb2 : Below w.heap.size w w2 := (Below.refl _ _).grown hgrow (Nat.le_refl _) (by intro k hk; cases hk)
  go_ret
  have hown' : w2.ownsRow w.heap.size 79 1 v' m (l.map (Value.int .i32)) := by simpa using hown
  obtain ⟨m', rfl⟩ : ∃ m', m = m' + 1 := ⟨m - 1, by omega⟩
  obtain ⟨g', cap', rfl⟩ := own_form hown'
  have lt := hown'.lt g' rfl
  refine ⟨⟨g', cap', rfl, lt.1, lt.2, fun j hj => ?_, fun j => hown'.frozenAt j⟩, hb2⟩
  rw [Nat.zero_add, hown'.cellAt j (by omega)]
  simp [List.getD, hj]
def mixR (c d : Row) (I : Nat) : Row := fun j => if j < I then min (c j) (d j) else c j
theorem listOf_congr (c d : Row) (m : Nat) (h : ∀ j, j < m → c j = d j) : listOf c m = listOf d m := by
  unfold listOf
  exact List.map_congr_left fun a ha => h a (by simpa using ha)
set_option maxHeartbeats 4000000 in
theorem rcommon_any {w : World} {B b o n m : Nat} {c d : Row} (h1 : RZone w B b n (listOf c m)) (h2 : RZone w B o n (listOf d m)) (hn : n ≤ 8) (hm : m = (n + 1) * (n + 1)) (hc : Made n c) (hd : Made n d) :
    Calls Tryz.prog 125 #[.pointer (some ⟨b, 0, none⟩), .pointer (some ⟨o, 0, none⟩)] w fun e w' => (∃ B', RZoneOut w' B' n e ((zoneR n (tgAll n (listOf (minR c d) m) m (startR n (n + 1) 0))).map (fun c => listOf c m))) ∧ Below w.heap.size w w' := by
  have hp : 0 < m := by rw [hm]; exact Nat.mul_pos (by omega) (by omega)
  have m81 : m ≤ 81 := by rw [hm]; exact Nat.mul_le_mul (show n + 1 ≤ 9 by omega) (show n + 1 ≤ 9 by omega)
  have hl1 := listOf_len c m
  have hl2 := listOf_len d m
  have hr : ∀ j, -2147483648 ≤ minR c d j ∧ minR c d j ≤ 2147483647 := fun j => by
    have := hc.range j
    have := hd.range j
    unfold minR
    omega
  have OF : Hid (∀ g cap w', RowAt w' g 0 (listOf (minR c d) m) → Calls Tryz.prog 10 #[.int .i64 n, .slice (some ⟨g, 0, none⟩) m cap] w' fun e w'' => RZoneOut w'' w'.heap.size n e ((zoneR n (tgAll n (listOf (minR c d) m) m (startR n (n + 1) 0))).map (fun c => listOf c m)) ∧ Below w'.heap.size w' w'') := fun g cap w' hR => by
    have ll := listOf_len (minR c d) m
    have hi : ∀ j, j < (listOf (minR c d) m).length → -2147483648 ≤ (listOf (minR c d) m).getD j 0 ∧ (listOf (minR c d) m).getD j 0 ≤ 2147483647 := fun j hj => by
      rw [listOf_get _ _ _ (by omega)]
      exact hr j
    have P := rof_main n g 0 cap (listOf (minR c d) m) w' hn (by omega) hR hi
    have os := of_same n (listOf (minR c d) m) (by omega) (fun j hj => (hi j (by omega)).2)
    rw [ll] at P os
    rw [hm] at os P ⊢
    refine P.mono ?_
    rintro e w'' ⟨hb, ⟨h, -⟩ | ⟨-, h⟩⟩
    · exfalso
      rw [allRight_of _ _ (fun j hj => by
        rw [listOf_get _ _ _ hj]
        have a := hc.right j
        have b := hd.right j
        unfold minR
        by_cases q : c j ≤ d j
        · rw [show min (c j) (d j) = c j by omega]; exact a
        · rw [show min (c j) (d j) = d j by omega]; exact b)] at h
      cases h
    · rw [os] at h
      exact ⟨h, hb⟩
  obtain ⟨g1, cap1, n1, a1, -, -, R1⟩ := h1
  obtain ⟨g2, cap2, -, a2, -, -, R2⟩ := h2
  rw [hl1] at a1
  rw [hl2] at a2
  have CE := hideD (rcells_own b g1 n cap1 m (listOf c m) w hl1 m81 hp a1 R1)
  have H2 : Hid (∀ j, j < m → w.cell? ⟨g2, j, none⟩ = some (.int .i32 (d j))) := fun j hj => by
    have := R2 j (by omega)
    rw [listOf_get _ _ _ hj, Nat.zero_add] at this
    exact this
  have HR : Hid (∀ (w' : World) g, (∀ j, j < m → w'.cell? ⟨g, j, none⟩ = some (.int .i32 (mixR c d m j))) → RowAt w' g 0 (listOf (minR c d) m)) := fun w' g h j hj => by
    rw [listOf_len] at hj
    rw [Nat.zero_add, h j hj, listOf_get _ _ _ hj]
    simp [mixR, minR, hj]
  have HRC : Hid (∀ (w' : World) g, RowAt w' g 0 (listOf c m) → ∀ j, j < m → w'.cell? ⟨g, j, none⟩ = some (.int .i32 (mixR c d 0 j))) := fun w' g h j hj => by
    have := h j (by rw [listOf_len]; exact hj)
    rw [listOf_get _ _ _ hj, Nat.zero_add] at this
    simpa [mixR] using this
  have A2 := hideD a2
  have N1 := hideD n1
  clear R1 R2 hm hl1 hl2 hr hc hd a1 a2 n1
  generalize listOf c m = L at *
  generalize (zoneR n (tgAll n (listOf (minR c d) m) m (startR n (n + 1) 0))).map (fun c => listOf c m) = Z at *
  generalize listOf (minR c d) m = M at *
  have m1 : (m : Int) ≤ 81 := by omega
  go_enter Tryz.func125, Tryz.ntmps125
  go_wp2_with fail
  refine CE.out.mono ?_
  rintro x w1 ⟨⟨g, cap, rfl, lg, lt, row, fz⟩, hb⟩
  have B1 := hideD hb
  have RW := hideD (HRC.out _ _ row)
  have FZ := hideD fz
  clear row fz hb CE HRC
  go_wp2_with fail
  go_loopw [7] (fun s wr => ∃ (I : Nat), I ≤ m ∧ s = .int .i64 I ∧ Hid (∀ j, j < m → wr.cell? ⟨g, j, none⟩ = some (.int .i32 (mixR c d I j))) ∧ Hid (∀ j, wr.frozen? ⟨g, j, none⟩ = false) ∧ Hid (Below w.heap.size w wr)) (fun s _ => m - (intOf s).toNat)
  case atStart => exact ⟨0, by omega, rfl, RW, FZ, B1⟩
  case round =>
    obtain ⟨I, hI, rfl, RW, FZ, B1⟩ := hrel
    by_cases ci : I < m
    · have b1 := RW.out I ci
      have b2 := kc _ _ B1.out (H2.out I ci)
      have b3 := kc _ _ B1.out A2.out
      have f1 := FZ.out I
      have e1 : Hid (mixR c d I I = c I) := by show mixR c d I I = c I; simp [mixR]
      rw [e1.out] at b1
      have N0 : Hid (¬ d I < c I → ∀ j, mixR c d (I + 1) j = mixR c d I j) := fun h j => by
        unfold mixR
        by_cases q : j = I
        · subst q
          rw [if_pos (by omega), if_neg (by omega)]
          omega
        · by_cases q2 : j < I
          · rw [if_pos (by omega), if_pos q2]
          · rw [if_neg (by omega), if_neg q2]
      have N2 : Hid (d I < c I → ∀ j, mixR c d (I + 1) j = if j = I then d I else mixR c d I j) := fun h j => by
        unfold mixR
        by_cases q : j = I
        · subst q
          rw [if_pos (by omega), if_pos rfl]
          omega
        · rw [if_neg q]
          by_cases q2 : j < I
          · rw [if_pos (by omega), if_pos q2]
          · rw [if_neg (by omega), if_neg q2]
      have i0 : (0 : Int) ≤ (I : Int) := by omega
      have i1 : (I : Int) < (m : Int) := by omega
      generalize c I = x at *
      generalize d I = y at *
      by_cases cx : y < x
      · have RN : Hid (∀ k, ∀ j, j < m → ((wr.drewN k).setCell ⟨g, I, none⟩ (.int .i32 y)).cell? ⟨g, j, none⟩ = some (.int .i32 (mixR c d (I + 1) j))) := fun k j hj => by
          rw [N2.out cx j]
          by_cases q : j = I
          · subst q
            rw [World.cell?_setCell_same _ _ _ (show (wr.drewN k).cell? ⟨g, j, none⟩ = _ from RW.out j hj), if_pos rfl]
          · rw [World.cell?_setCell_other _ _ _ _ (by intro e; injection e; omega), if_neg q]
            exact RW.out j hj
        have FN : Hid (∀ k, ∀ j, ((wr.drewN k).setCell ⟨g, I, none⟩ (.int .i32 y)).frozen? ⟨g, j, none⟩ = false) := fun k j => by
          rw [World.frozen?_setCell]
          exact FZ.out j
        have BN : Hid (∀ k, Below w.heap.size w ((wr.drewN k).setCell ⟨g, I, none⟩ (.int .i32 y))) := fun k => Below.setCell (p := ⟨g, I, none⟩) (below_drewN B1.out k) lg _
        clear N0 N2 RW FZ e1
        go_wp2_with fail
        go_quiet (fail)
        go_wp2_with fail
        go_roundw
        case rel => exact ⟨I + 1, by omega, by go_num, RN.out _, FN.out _, BN.out _⟩
        case measure => simp [intOf]; omega
      · have RN : Hid (∀ j, j < m → wr.cell? ⟨g, j, none⟩ = some (.int .i32 (mixR c d (I + 1) j))) := fun j hj => by
          rw [N0.out cx j]
          exact RW.out j hj
        clear N0 N2 RW e1
        go_wp2_with fail
        go_quiet (fail)
        go_wp2_with fail
        go_roundw
        case rel => exact ⟨I + 1, by omega, by go_num, RN, FZ, below_drewN B1.out _⟩
        case measure => simp [intOf]; omega
    · have st : Hid (I = m) := by show I = m; omega
      have RM := hideD (HR.out wr g (by have e := st.out; subst e; exact RW.out))
      have O := hideD (OF.out g cap wr RM.out)
      have n2 := kc _ _ B1.out N1.out
      clear RW RM OF HR FZ
      go_wp2_with fail
      refine O.out.mono ?_
      rintro e w2 ⟨hz, hb⟩
      have B2 := hideD (beyondD B1.out hb)
      clear O hb
      cases Z with
      | none =>
        obtain rfl := hz
        go_wp2_with fail
        exact bodyPost_ret (v := .tuple #[.pointer none, .int .i64 10]) (by simp [results, Tryz.results125, go_sem]) rfl ⟨⟨0, rfl⟩, B2.out⟩
      | some l =>
        obtain ⟨b', rfl, hz⟩ := hz
        have HZ := hideD hz
        clear hz
        go_wp2_with fail
        exact bodyPost_ret (v := .tuple #[.pointer (some ⟨b', 0, none⟩), .int .i64 0]) (by simp [results, Tryz.results125, go_sem]) rfl ⟨⟨_, b', rfl, HZ.out⟩, B2.out⟩
end Go.Proofs.YtnfkmpickmonoaaGreat
