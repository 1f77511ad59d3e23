/-
  The contracts of beyond and nowhere of the statements of dbm.
-/
import Derived.Test.YtmnckhchpbdfjaaHd
namespace Go.Proofs.Ytmnckhchpbdfjaa
open Go.RowKit Go.Shelf
set_option linter.unusedVariables false
set_option maxRecDepth 100000
theorem not_fin {b : Int} (h0 : -536870912 ≤ b) (h1 : b ≤ 536870913) : notB b = 1 - b ∧ notE b = 0 := by
  have hf : finB b = true := by unfold finB; simp; omega
  have hr : rightB b = true := by unfold rightB; simp; omega
  have hv : valV b = b / 2 := by simp [valV, hf]
  have hR : valR b = decide (b % 2 = 1) := by simp [valR, hf]
  have hc : ¬ (-(b / 2) < -268435456 ∨ 268435456 < -(b / 2)) := by omega
  have a1 : notB b = ofB (-(b / 2)) (!decide (b % 2 = 1)) := by unfold notB; rw [if_pos hf, hv, hR]
  have a2 : notE b = ofE (-(b / 2)) := by unfold notE; rw [if_pos hr, if_pos hf, hv]
  refine ⟨?_, by rw [a2]; unfold ofE; rw [if_neg hc]⟩
  rw [a1]
  unfold ofB
  rw [if_neg hc]
  by_cases q : b % 2 = 1
  · rw [decide_eq_true q]
    show 2 * -(b / 2) = 1 - b
    omega
  · rw [decide_eq_false q]
    show 2 * -(b / 2) + 1 = 1 - b
    omega
theorem RZone.past' {w w' : World} {B r n : Nat} {l : List Int} (h : RZone w B r n l) (hb : Below w.heap.size w w') : RZone w' B r n l := by
  obtain ⟨g, cap, h0, h1, h2, h3, h4⟩ := h
  exact ⟨g, cap, kc _ _ hb h0, kc _ _ hb h1, h2, h3, fun j hj => kc _ _ hb (h4 j hj)⟩
theorem rempty_at {w : World} {B b n : Nat} {l : List Int} (h : RZone w B b n l) (hl : 0 < l.length) (h1 : l.getD 0 0 = 1) :
    Calls Try.prog 37 #[.pointer (some ⟨b, 0, none⟩)] w fun e w' => e = .returned (.bool false) ∧ w' = w := by
  obtain ⟨g, cap, h0, a1, -, -, h4⟩ := h
  have a0 := h4 0 hl
  rw [h1] at a0
  clear h4 h0 h1
  generalize l.length = m at *
  have m0 : (0 : Int) < (m : Int) := by omega
  go_enter Try.func37, Try.ntmps37
  go_wp2
  go_ret
  exact ⟨rfl, rfl⟩
set_option maxHeartbeats 8000000 in
theorem beyond_any (n m cb off cap i j : Nat) (p : Mat) (c : Row) (b : Int) (w : World) (hn : n ≤ 8) (hm : m = (n + 1) * (n + 1)) (hF : Full n m p c) (hR : RowAt w cb off (listOf c m)) (hi : i ≤ n) (hj : j ≤ n) (ne : ¬ i = j) (b0 : -536870912 ≤ b) (b1 : b ≤ 536870913) (hlt : b < c (i * (n + 1) + j)) :
    Calls Try.prog 15 #[.int .i64 n, .slice (some ⟨cb, off, none⟩) m cap, .int .i64 i, .int .i64 j, .int .i32 b] w fun e w' => e = .returned (.bool true) ∧ Below w.heap.size w w' := by
  have mp : 0 < m := by rw [hm]; exact Nat.mul_pos (by omega) (by omega)
  have m81 : m ≤ 81 := by rw [hm]; exact Nat.mul_le_mul (show n + 1 ≤ 9 by omega) (show n + 1 ≤ 9 by omega)
  have hcb : cb < w.heap.size := World.block_lt_of_cell? _ _ (hR 0 (by rw [listOf_len]; exact mp))
  have ll := listOf_len c m
  obtain ⟨nb, nE⟩ := not_fin b0 b1
  have NT := hideD (rnot_any b w (by omega) (by omega))
  rw [nb, nE] at NT
  have hp : 1 ≤ pl (p i j) (1 - b) := by
    have ho := opn_val
    rw [hF.at hm i j hi hj] at hlt
    have pc := pl_cases (p i j) (1 - b)
    by_cases q : p i j = opn
    · omega
    · have := cell_fin q (hF.ok hm i j hi hj)
      rw [this.1] at hlt
      omega
  have lz := less_zone hn hF hm hi hj ne (o := 1 - b) (by omega) (by omega) hp
  have rr := lessR_right hF hm (j * (n + 1) + i) (1 - b) (by omega) (by omega)
  have lt3 : j * (n + 1) + i < m := by rw [hm]; exact pos_lt hj hi
  have OF : Hid (∀ g cap w', RowAt w' g 0 (listOf (lessR c (j * (n + 1) + i) (1 - b)) m) → Calls Try.prog 5 #[.int .i64 n, .slice (some ⟨g, 0, none⟩) m cap] w' fun e w'' => RZoneOut w'' w'.heap.size n e ((zoneR n (drf n m (listOf (lessR c (j * (n + 1) + i) (1 - b)) m))).map (fun c => listOf c m)) ∧ Below w'.heap.size w' w'') := fun g cap w' hR' => by
    have l2 := listOf_len (lessR c (j * (n + 1) + i) (1 - b)) m
    have hi' : ∀ k, k < (listOf (lessR c (j * (n + 1) + i) (1 - b)) m).length → -2147483648 ≤ (listOf (lessR c (j * (n + 1) + i) (1 - b)) m).getD k 0 ∧ (listOf (lessR c (j * (n + 1) + i) (1 - b)) m).getD k 0 ≤ 2147483647 := fun k hk => by
      have := rr k (by omega)
      omega
    have P := rof_main n g 0 cap _ w' hn (by omega) hR' hi'
    have os := of_same n (listOf (lessR c (j * (n + 1) + i) (1 - b)) m) (by omega) (fun k hk => (hi' k (by omega)).2)
    rw [l2] at P os
    rw [← hm] at os
    refine P.mono ?_
    rintro e w'' ⟨hb, ⟨h1, -⟩ | ⟨-, h1⟩⟩
    · exfalso
      have ar : ∀ k, k ≤ m → allRight (listOf (lessR c (j * (n + 1) + i) (1 - b)) m) k = true := fun k => by
        induction k with
        | zero => exact fun _ => rfl
        | succ k ih =>
          intro hk
          have := rr k (by omega)
          have e : rightB ((listOf (lessR c (j * (n + 1) + i) (1 - b)) m).getD k 0) = true := by unfold rightB; simpa using this
          simp only [allRight, ih (by omega), e, Bool.and_self]
      rw [ar m (Nat.le_refl _)] at h1
      cases h1
    · rw [os] at h1
      exact ⟨h1, hb⟩
  have IN : Hid (∀ q c2, Full n m q c2 → ∀ g cap w', g < w'.heap.size → RowAt w' g 0 (listOf c2 m) → Calls Try.prog 13 #[.int .i64 n, .slice (some ⟨g, 0, none⟩) m cap] w' fun e w'' => (∃ g cap, e = .returned (.slice (some ⟨g, 0, none⟩) (n + 1 : Nat) cap) ∧ w'.heap.size ≤ g ∧ ValAt w'' g n (gRounds n q ((n : Int) + 1) (n + 2) (fun _ => 0))) ∧ Below w'.heap.size w' w'') := fun q c2 hq g cap w' lg hR' =>
    inside_any n m g 0 cap _ q w' hn hm (listOf_len _ _) hR' lg hq.closed (fun a b ha hb => by
      have lt : a * (n + 1) + b < m := by rw [hm]; exact pos_lt ha hb
      rw [listOf_get _ _ _ lt]
      exact ⟨hq.at hm a b ha hb, hq.ok hm a b ha hb⟩)
  have KE : Hid (∀ q c2, Full n m q c2 → (∀ a b', a ≤ n → b' ≤ n → q a b' ≤ drf n m (listOf (lessR c (j * (n + 1) + i) (1 - b)) m) a b') → ∀ g cap gv capv w', RowAt w' g 0 (listOf (lessR c (j * (n + 1) + i) (1 - b)) m) → ValAt w' gv n (gRounds n q ((n : Int) + 1) (n + 2) (fun _ => 0)) → Calls Try.prog 12 #[.int .i64 n, .slice (some ⟨g, 0, none⟩) m cap, .slice (some ⟨gv, 0, none⟩) (n + 1 : Nat) capv, .int .i64 ((n : Int) + 1)] w' fun e w'' => e = .returned (.bool true) ∧ Below w'.heap.size w' w'') := fun q c2 hq le g cap gv capv w' hR' hV => by
    have hc := hq.closed
    have kk := inside_keeps hc (show (n : Int) + 1 = n + 1 from rfl)
    have kd : keepsM n (gRounds n q ((n : Int) + 1) (n + 2) (fun _ => 0)) ((n : Int) + 1) (drf n m (listOf (lessR c (j * (n + 1) + i) (1 - b)) m)) := fun a b' ha hb' => holdsW_mono (by omega) ((drf_fin n m _ hm rr a b' ha hb').mono (by decide)) (le a b' ha hb') (kk a b' ha hb')
    have kb := keeps_down hm rr (by omega) kd
    have k0 : ∀ j, j ≤ n → -536870912 ≤ q 0 j := fun j hj => (cell_fin (low_fin hc j hj) (hq.ok hm 0 j (by omega) hj)).2.2.2.2.1
    have K := keeps_any n m g 0 cap gv capv (listOf (lessR c (j * (n + 1) + i) (1 - b)) m) _ ((n : Int) + 1) w' hn hm (listOf_len _ _) hR' hV (fun k hk => by
      have := rr k hk
      unfold rightB
      simpa using this) (fun a ha => ⟨rounds_nonneg _ _ _ _ _, cur_bd hn hc rfl k0 (upper_rounds hc rfl (upper_start hc rfl) (n + 2)) a ha⟩) (by omega) (by omega)
    rw [kb] at K
    refine K.mono ?_
    rintro e w'' ⟨rfl, k, rfl⟩
    exact ⟨rfl, below_draw _ _⟩
  have HL : Hid (∀ a, lessR c (j * (n + 1) + i) (1 - b) a = if a = j * (n + 1) + i then (if 1 - b < c a then 1 - b else c a) else c a) := fun a => lessR_at c _ _ a
  have HN : Hid (∀ k u, ((listOf c m).map (Value.int .i32))[k]? = some u → w.cell? ((⟨cb, off, none⟩ : Addr).add k) = some u) := by
    intro k u hu
    rw [Addr.add_lit]
    by_cases hk : k < m
    · have := hR k (by omega)
      rw [listOf_get _ _ _ hk] at this
      rw [this]
      simp [listOf, hk] at hu
      simp [hu]
    · rw [List.getElem?_eq_none (by simp [ll]; omega)] at hu
      cases hu
  have FG : Hid (∀ k, k < m → ((listOf c m).map (Value.int .i32))[k]? = some (.int .i32 (c k))) := fun k hk => by simp [listOf, hk]
  have FL : Hid (((listOf c m).map (Value.int .i32)).length = m) := by show _ = _; simp [ll]
  have FO : Hid (∀ u ∈ (listOf c m).map (Value.int .i32), u.oneCell' = true) := fun u hu => by obtain ⟨z, _, rfl⟩ := List.mem_map.1 hu; rfl
  have LZ := hideD lz
  have C2 : Hid (∀ q c2, Full n m q c2 → (listOf c2 m).getD 0 0 = 1) := fun q c2 hq => by
    have := hq.at hm 0 0 (by omega) (by omega)
    rw [Nat.zero_mul, Nat.zero_add] at this
    rw [listOf_get _ _ _ mp, this, hq.one 0 (by omega)]
    decide
  have E1 : Hid (IntKind.i64.wrap ((j : Int) * ((n : Int) + 1)) = ((j * (n + 1) : Nat) : Int)) := by
    show _ = _
    have : (j : Int) * ((n : Int) + 1) = ((j * (n + 1) : Nat) : Int) := by simp
    rw [this, IntKind.wrap_i64]
    generalize j * (n + 1) = z at *
    omega
  have E1' : Hid (wrap64 ((j : Int) * ((n : Int) + 1)) = ((j * (n + 1) : Nat) : Int)) := by
    show _ = _
    have : (j : Int) * ((n : Int) + 1) = ((j * (n + 1) : Nat) : Int) := by simp
    rw [this]
    unfold wrap64
    generalize j * (n + 1) = z at *
    omega
  obtain ⟨i0, hi0, hz0, hz1, hz2⟩ := info_parts info_bd
  generalize zoneR n (drf n m (listOf (lessR c (j * (n + 1) + i) (1 - b)) m)) = Z at *
  generalize drf n m (listOf (lessR c (j * (n + 1) + i) (1 - b)) m) = D at *
  have RL : Hid (∀ (w' : World) g, (∀ k, k < m → w'.cell? ⟨g, k, none⟩ = some (.int .i32 (lessR c (j * (n + 1) + i) (1 - b) k))) → RowAt w' g 0 (listOf (lessR c (j * (n + 1) + i) (1 - b)) m)) := fun w' g h k hk => by
    rw [listOf_len] at hk
    rw [Nat.zero_add, h k hk, listOf_get _ _ _ hk]
  generalize lessR c (j * (n + 1) + i) (1 - b) = lr at *
  generalize hfz : (listOf c m).map (Value.int .i32) = fz at *
  clear hfz hR hF hm hp lz rr nb nE hlt ll
  generalize listOf lr m = LR at *
  generalize j * (n + 1) = P at *
  have m1 : (m : Int) ≤ 81 := by omega
  have e2 : IntKind.i64.wrap ((P : Int) + (i : Int)) = (P : Int) + (i : Int) := by rw [IntKind.wrap_i64]; omega
  have e8 : (0 : Int) ≤ (P : Int) + (i : Int) := by omega
  have e9 : ((P : Int) + (i : Int)).toNat = P + i := by omega
  have e5 : (P : Int) + (i : Int) < (m : Int) := by omega
  generalize ho : 1 - b = o at *
  clear ho
  have e1 := E1.out
  have e1' := E1'.out
  go_enter Try.func15, Try.ntmps15
  go_wp2_with fail
  refine NT.out.mono ?_
  rintro e w1 ⟨rfl, rfl⟩
  go_upto_region 5 with (fail)
  go_cut [13] (fun s w' => (∃ g cap', s = .slice (some ⟨g, 0, none⟩) m cap' ∧ w1.heap.size ≤ g ∧ Hid (∀ k, k < m → w'.cell? ⟨g, k, none⟩ = some (.int .i32 (c k))) ∧ Hid (∀ k, w'.frozen? ⟨g, k, none⟩ = false)) ∧ Below w1.heap.size w1 w')
  case first =>
    go_wp2_with (at_builtin; refine wpList_append_own _ rfl _ _ 22 rfl w1.heap.size 37 i0 (.int .i32 0) 1 4 Try.underlying22 hi0 hz0 hz1 hz2 rfl (by decide) (.slice none 0 0) 0 [] rfl (World.ownsRow_nil _ _ _ _) ⟨cb, off, none⟩ m cap fz rfl (by rw [FL.out]; omega) HN.out FO.out (by unfold maxLen; omega) (by omega) (Nat.le_refl _) ?_; intro v' w2 hown hgrow hnil')
    have hb1 : Below w1.heap.size w1 w2 := (Below.refl _ _).grown hgrow (Nat.le_refl _) (by intro k hk; cases hk)
    have hown' : w2.ownsRow w1.heap.size 37 1 v' m fz := by simpa using hown
    obtain ⟨m', rfl⟩ : ∃ m', m = m' + 1 := ⟨m - 1, by omega⟩
    obtain ⟨g', cap', rfl⟩ := own_form hown'
    have lt' := hown'.lt g' rfl
    have hcell : Hid (∀ k, k < m' + 1 → w2.cell? ⟨g', k, none⟩ = some (.int .i32 (c k))) := fun k hk => by
      rw [hown'.cellAt k (by omega)]
      exact FG.out k hk
    have hfr : Hid (∀ k, w2.frozen? ⟨g', k, none⟩ = false) := fun k => hown'.frozenAt k
    go_meet
    exact ⟨⟨g', cap', rfl, lt'.1, hcell, hfr⟩, hb1⟩
  case rest =>
    obtain ⟨⟨g, capg, rfl, lg, HC, HF⟩, hb1⟩ := hcut
    have B1 := hideD hb1
    have r1 := HC.out (P + i) (by omega)
    have f1 := HF.out (P + i)
    have AFT : Hid (∀ (W : World) , Below w1.heap.size w1 W → (∀ k, k < m → W.cell? ⟨g, k, none⟩ = some (.int .i32 (lr k))) → RowAt W g 0 LR) := fun W _ h => RL.out W g h
    clear hb1 hi0 hz0 hz1 hz2 HN FG FL FO NT
    have lgc : Hid (g < wc.heap.size) := World.block_lt_of_cell? _ _ r1
    generalize hv : c (P + i) = v at *
    have HV := hideD hv
    clear hv
    by_cases cz : o < v
    · have HLW : Hid (∀ k, k < m → (wc.setCell ⟨g, P + i, none⟩ (.int .i32 o)).cell? ⟨g, k, none⟩ = some (.int .i32 (lr k))) := fun k hk => by
        rw [HL.out k]
        by_cases qa : k = P + i
        · subst qa
          rw [World.cell?_setCell_same _ _ _ r1, if_pos rfl, HV.out, if_pos cz]
        · rw [World.cell?_setCell_other _ _ _ _ (by intro e; injection e; omega), if_neg qa]
          exact HC.out k hk
      have BW : Hid (Below w1.heap.size w1 (wc.setCell ⟨g, P + i, none⟩ (.int .i32 o))) := Below.setCell (p := ⟨g, P + i, none⟩) B1.out lg _
      have GW : Hid (g < (wc.setCell ⟨g, P + i, none⟩ (.int .i32 o)).heap.size) := by
        show g < _
        rw [World.size_setCell]
        exact lgc.out
      clear HC HF B1 lgc HV HL
      go_wp2_with fail
      generalize wc.setCell ⟨g, P + i, none⟩ (.int .i32 o) = W at *
      clear r1 f1 cz
      have RW := hideD (AFT.out W BW.out HLW.out)
      have O := hideD (OF.out g capg W RW.out)
      clear AFT OF HLW RL
      refine O.out.mono ?_
      rintro e' w4 ⟨hz, hb⟩
      have B4 := hideD (beyondD BW.out hb)
      have R4 : Hid (RowAt w4 g 0 LR) := RW.out.later hb GW.out
      clear O hb BW RW GW
      rcases LZ.out with z0 | ⟨q, c2, z0, fq, le⟩
      · subst z0
        obtain rfl := hz
        go_wp2_with fail
        go_ret
        exact ⟨rfl, B4.out⟩
      · subst z0
        obtain ⟨b', rfl, hz⟩ := hz
        have HZ := hideD hz
        have l2 := listOf_len c2 m
        have EM := hideD (rempty_at hz (by rw [l2]; exact mp) (C2.out q c2 fq))
        have CL : Hid (Calls Try.prog 38 #[.pointer (some ⟨b', 0, none⟩)] w4 fun e w' => (∃ v, e = .returned v ∧ OwnRow w' w4.heap.size v (listOf c2 m)) ∧ Below w4.heap.size w4 w') := by
          obtain ⟨gz, capz, -, az, -, -, Rz⟩ := hz
          exact rcells_any b' gz n capz m (listOf c2 m) w4 l2 m81 mp (by rw [← l2]; exact az) Rz
        have FQ := hideD fq
        have LE := hideD le
        clear hz fq le C2 LZ HZ
        go_wp2_with fail
        refine EM.out.mono ?_
        rintro e' w5 ⟨rfl, rfl⟩
        go_wp2_with fail
        refine CL.out.mono ?_
        rintro e' w6 ⟨⟨v6, rfl, g6, cap6, rfl, -, lt6, row6⟩, hb6⟩
        rw [l2]
        have R6 : Hid (RowAt w6 g 0 LR) := fun k hk => kc _ _ hb6 (R4.out k hk)
        have B6 := hideD (beyondD B4.out hb6)
        have I6 := hideD (IN.out q c2 FQ.out g6 cap6 w6 lt6 row6)
        clear hb6 row6 EM CL R4 B4 IN
        go_wp2_with fail
        refine I6.out.mono ?_
        rintro e' w7 ⟨⟨gv, capv, rfl, -, va⟩, hb7⟩
        have B7 := hideD (beyondD B6.out hb7)
        have K7 := hideD (KE.out q c2 FQ.out LE.out g capg gv capv w7 (fun k hk => kc _ _ hb7 (R6.out k hk)) va)
        clear hb7 va I6 R6 B6 KE
        go_wp2_with fail
        refine K7.out.mono ?_
        rintro e' w8 ⟨rfl, hb8⟩
        go_wp2_with fail
        go_ret
        exact ⟨rfl, beyondD B7.out hb8⟩
    · have HLW : Hid (∀ k, k < m → wc.cell? ⟨g, k, none⟩ = some (.int .i32 (lr k))) := fun k hk => by
        rw [HL.out k]
        by_cases qa : k = P + i
        · subst qa
          rw [if_pos rfl, HV.out, if_neg cz, r1]
        · rw [if_neg qa]
          exact HC.out k hk
      have BW := B1
      have GW := lgc
      clear HC HF B1 lgc HV HL
      go_wp2_with fail
      generalize wc = W at *
      clear r1 f1 cz
      have RW := hideD (AFT.out W BW.out HLW.out)
      have O := hideD (OF.out g capg W RW.out)
      clear AFT OF HLW RL
      refine O.out.mono ?_
      rintro e' w4 ⟨hz, hb⟩
      have B4 := hideD (beyondD BW.out hb)
      have R4 : Hid (RowAt w4 g 0 LR) := RW.out.later hb GW.out
      clear O hb BW RW GW
      rcases LZ.out with z0 | ⟨q, c2, z0, fq, le⟩
      · subst z0
        obtain rfl := hz
        go_wp2_with fail
        go_ret
        exact ⟨rfl, B4.out⟩
      · subst z0
        obtain ⟨b', rfl, hz⟩ := hz
        have HZ := hideD hz
        have l2 := listOf_len c2 m
        have EM := hideD (rempty_at hz (by rw [l2]; exact mp) (C2.out q c2 fq))
        have CL : Hid (Calls Try.prog 38 #[.pointer (some ⟨b', 0, none⟩)] w4 fun e w' => (∃ v, e = .returned v ∧ OwnRow w' w4.heap.size v (listOf c2 m)) ∧ Below w4.heap.size w4 w') := by
          obtain ⟨gz, capz, -, az, -, -, Rz⟩ := hz
          exact rcells_any b' gz n capz m (listOf c2 m) w4 l2 m81 mp (by rw [← l2]; exact az) Rz
        have FQ := hideD fq
        have LE := hideD le
        clear hz fq le C2 LZ HZ
        go_wp2_with fail
        refine EM.out.mono ?_
        rintro e' w5 ⟨rfl, rfl⟩
        go_wp2_with fail
        refine CL.out.mono ?_
        rintro e' w6 ⟨⟨v6, rfl, g6, cap6, rfl, -, lt6, row6⟩, hb6⟩
        rw [l2]
        have R6 : Hid (RowAt w6 g 0 LR) := fun k hk => kc _ _ hb6 (R4.out k hk)
        have B6 := hideD (beyondD B4.out hb6)
        have I6 := hideD (IN.out q c2 FQ.out g6 cap6 w6 lt6 row6)
        clear hb6 row6 EM CL R4 B4 IN
        go_wp2_with fail
        refine I6.out.mono ?_
        rintro e' w7 ⟨⟨gv, capv, rfl, -, va⟩, hb7⟩
        have B7 := hideD (beyondD B6.out hb7)
        have K7 := hideD (KE.out q c2 FQ.out LE.out g capg gv capv w7 (fun k hk => kc _ _ hb7 (R6.out k hk)) va)
        clear hb7 va I6 R6 B6 KE
        go_wp2_with fail
        refine K7.out.mono ?_
        rintro e' w8 ⟨rfl, hb8⟩
        go_wp2_with fail
        go_ret
        exact ⟨rfl, beyondD B7.out hb8⟩
set_option maxHeartbeats 1000000 in
theorem nowhere_any (g1 g2 c1 c2 m : Nat) (c d : Row) (w : World) (h1 : RowAt w g1 0 (listOf c m)) (h2 : RowAt w g2 0 (listOf d m)) (hm : m ≤ 81) :
    Calls Try.prog 16 #[.slice (some ⟨g1, 0, none⟩) m c1, .slice (some ⟨g2, 0, none⟩) m c2] w fun e w' => e = .returned (.bool (nless c d m)) ∧ ∃ k, w' = w.drewN k := by
  have H1 : Hid (∀ j, j < m → w.cell? ⟨g1, j, none⟩ = some (.int .i32 (c j))) := fun j hj => by
    have := h1 j (by rw [listOf_len]; exact hj)
    rw [listOf_get _ _ _ hj, Nat.zero_add] at this
    exact this
  have H2 : Hid (∀ j, j < m → w.cell? ⟨g2, j, none⟩ = some (.int .i32 (d j))) := fun j hj => by
    have := h2 j (by rw [listOf_len]; exact hj)
    rw [listOf_get _ _ _ hj, Nat.zero_add] at this
    exact this
  clear h1 h2
  have m1 : (m : Int) ≤ 81 := by omega
  go_enter Try.func16, Try.ntmps16
  go_wp2_with fail
  go_loopw [5] (fun s wr => ∃ (I k : Nat), I ≤ m ∧ s = .int .i64 I ∧ Hid (nless c d I = true) ∧ wr = w.drewN k) (fun s _ => m - (intOf s).toNat)
  case atStart => exact ⟨0, 0, by omega, rfl, rfl, rfl⟩
  case round =>
    obtain ⟨I, k, hI, rfl, hq, rfl⟩ := hrel
    by_cases ci : I < m
    · have a1 := H1.out I ci
      have a2 := H2.out I ci
      have st : Hid (nless c d (I + 1) = decide (d I ≤ c I)) := by show nless c d (I + 1) = _; simp [nless, hq.out]
      have i0 : (0 : Int) ≤ (I : Int) := by omega
      have i1 : (I : Int) < (m : Int) := by omega
      generalize c I = x at *
      generalize d I = y at *
      by_cases cx : x < y
      · have st3 : Hid (nless c d m = false) := by
          show nless c d m = false
          refine nless_false (k := I + 1) m (by omega) ?_
          rw [st.out, decide_eq_false (by omega)]
        clear st hq
        go_wp2_with fail
        go_quiet (fail)
        go_wp2_with fail
        go_ret
        exact ⟨by rw [st3.out]; rfl, _, World.drewN_drewN _ _ _⟩
      · have st3 : Hid (nless c d (I + 1) = true) := by show nless c d (I + 1) = true; rw [st.out, decide_eq_true (by omega)]
        clear st hq
        go_wp2_with fail
        go_quiet (fail)
        go_wp2_with fail
        go_roundw
        case rel => exact ⟨I + 1, _, by omega, by go_num, st3, rfl⟩
        case measure => simp [intOf]; omega
    · have st : Hid (nless c d m = true) := by
        obtain rfl : I = m := by omega
        exact hq.out
      clear hq
      go_wp2_with fail
      go_ret
      exact ⟨by rw [st.out]; rfl, _, rfl⟩
end Go.Proofs.Ytmnckhchpbdfjaa
