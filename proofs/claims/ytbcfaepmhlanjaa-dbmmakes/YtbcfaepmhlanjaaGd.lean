/-
  The document's Limits without limits, Universe, Zero; rows of limits as cells; Dim and Empty.
-/
import Derived.Test.YtbcfaepmhlanjaaGc
namespace Go.Proofs.Ytbcfaepmhlanjaa
open Go.RowKit
set_option linter.unusedVariables false
set_option maxRecDepth 100000
/-! ### Rows of limits, cell by cell -/
def cv (L : Lims) (j : Nat) : Value := if j % 3 = 0 then .int .i64 (L.i (j / 3)) else if j % 3 = 1 then .int .i64 (L.j (j / 3)) else .int .i32 (L.b (j / 3))
def fl (L : Lims) (q : Nat) : List Value := (List.range (3 * q)).map (cv L)
theorem fl_len (L : Lims) (q : Nat) : (fl L q).length = 3 * q := by simp [fl]
theorem fl_get (L : Lims) (q j : Nat) (h : j < 3 * q) : (fl L q)[j]? = some (cv L j) := by simp [fl, h]
theorem cv0 (L : Lims) (k : Nat) : cv L (k * 3) = .int .i64 (L.i k) := by
  unfold cv
  rw [if_pos (by omega), show k * 3 / 3 = k by omega]
theorem cv1 (L : Lims) (k : Nat) : cv L (k * 3 + 1) = .int .i64 (L.j k) := by
  unfold cv
  rw [if_neg (by omega), if_pos (by omega), show (k * 3 + 1) / 3 = k by omega]
theorem cv2 (L : Lims) (k : Nat) : cv L (k * 3 + 2) = .int .i32 (L.b k) := by
  unfold cv
  rw [if_neg (by omega), if_neg (by omega), show (k * 3 + 2) / 3 = k by omega]
theorem fl_next (L : Lims) (q : Nat) : fl L (q + 1) = fl L q ++ [.int .i64 (L.i q), .int .i64 (L.j q), .int .i32 (L.b q)] := by
  have e0 := cv0 L q
  have e1 := cv1 L q
  have e2 := cv2 L q
  unfold fl
  rw [show 3 * (q + 1) = 3 * q + 1 + 1 + 1 by omega, List.range_succ, List.range_succ, List.range_succ]
  simp only [List.map_append, List.map_cons, List.map_nil, List.append_assoc, List.cons_append, List.nil_append]
  rw [show 3 * q = q * 3 by omega, e0, e1, show q * 3 + 1 + 1 = q * 3 + 2 by omega, e2]
theorem row_cells {w : World} {b off : Nat} {L : Lims} (h : LimRow w b off L) (j : Nat) (hj : j < 3 * L.q) : w.cell? ⟨b, off + j, none⟩ = some (cv L j) := by
  obtain ⟨a, b', c⟩ := h (j / 3) (by omega)
  have : j % 3 = 0 ∨ j % 3 = 1 ∨ j % 3 = 2 := by omega
  rcases this with r | r | r
  · rw [show off + j / 3 * 3 = off + j by omega] at a
    rw [a]; unfold cv; rw [if_pos r]
  · rw [show off + j / 3 * 3 + 1 = off + j by omega] at b'
    rw [b']; unfold cv; rw [if_neg (by omega), if_pos r]
  · rw [show off + j / 3 * 3 + 2 = off + j by omega] at c
    rw [c]; unfold cv; rw [if_neg (by omega), if_neg (by omega)]
theorem cells_row {w : World} {b off : Nat} {L : Lims} (h : ∀ j, j < 3 * L.q → w.cell? ⟨b, off + j, none⟩ = some (cv L j)) : LimRow w b off L := fun k hk =>
  ⟨by rw [h (k * 3) (by omega), cv0], by rw [Nat.add_assoc, h (k * 3 + 1) (by omega), cv1], by rw [Nat.add_assoc, h (k * 3 + 2) (by omega), cv2]⟩
theorem own_form3 {w : World} {base K : Nat} {E : TypeId} {v : Value} {xs : List Value} (h : w.ownsRow base E 3 v (K + 1) xs) : ∃ g cap, v = .slice (some ⟨g, 0, none⟩) (K + 1) cap := by
  rcases h.2 with ⟨_, h0⟩ | ⟨g, cap, cur, hv, _⟩
  · omega
  · exact ⟨g, cap, hv⟩
theorem info_lim : (Try.prog.info? 39).map (fun i => (i.zero, i.size, i.bytes)) = some (some (.agg #[.int .i64 0, .int .i64 0, .int .i32 0]), 3, 24) := by kernel_rfl
theorem info3 {P : Program} {e : TypeId} {z : Value} {s b : Nat} (h : (P.info? e).map (fun i => (i.zero, i.size, i.bytes)) = some (some z, s, b)) : ∃ i, P.info? e = some i ∧ i.zero = some z ∧ i.size = s ∧ i.bytes = b := by
  obtain ⟨i, hi, hz⟩ := Option.map_eq_some_iff.1 h
  simp only [Prod.mk.injEq] at hz
  exact ⟨i, hi, hz.1, hz.2.1, hz.2.2⟩
/-! ### The document's Limits without limits -/
def L0 : Lims := ⟨0, fun _ => 0, fun _ => 0, fun _ => 0⟩
theorem rlimits_clock (n : Int) (v : Value) (w : World) (h : ¬ (0 ≤ n ∧ n ≤ 8)) :
    Calls Try.prog 9 #[.int .i64 n, v] w fun e w' => e = errOf 12 ∧ w' = w := by
  by_cases c : n < 0
  · go_enter Try.func9, Try.ntmps9
    go_wp2_with fail
    refine bodyPost_ret (v := .tuple #[.pointer none, .int .i64 12]) (by simp [results, Try.results9, go_sem]) rfl ⟨rfl, rfl⟩
  · have c2 : 8 < n := by omega
    go_enter Try.func9, Try.ntmps9
    go_wp2_with fail
    refine bodyPost_ret (v := .tuple #[.pointer none, .int .i64 12]) (by simp [results, Try.results9, go_sem]) rfl ⟨rfl, rfl⟩
set_option maxHeartbeats 2000000 in
theorem rlimits_zero (n m cap : Nat) (ad : Option Addr) (w : World) (h : n ≤ 8) (hm : m = (n + 1) * (n + 1)) :
    Calls Try.prog 9 #[.int .i64 n, .slice ad 0 cap] w fun e w' => Below w.heap.size w w' ∧ ∃ B', RZoneOut w' B' n e ((zoneR n (startR n (n + 1) 0)).map (fun c => listOf c m)) := by
  have mp : 0 < m := by rw [hm]; exact Nat.mul_pos (by omega) (by omega)
  have m81 : m ≤ 81 := by rw [hm]; exact Nat.mul_le_mul (show n + 1 ≤ 9 by omega) (show n + 1 ≤ 9 by omega)
  have IN := hideD (rinfs_any n m w h hm)
  have OF : Hid (∀ g cap w', (∀ p, p < m → w'.cell? ⟨g, p, none⟩ = some (.int .i32 2147483647)) → Calls Try.prog 27 #[.int .i64 n, .slice (some ⟨g, 0, none⟩) m cap] w' fun e w'' => RZoneOut w'' w'.heap.size n e ((zoneR n (startR n (n + 1) 0)).map (fun c => listOf c m)) ∧ Below w'.heap.size w' w'') := fun g cap w' hc => by
    have ll := listOf_len (rlAll n L0 0) m
    have hR' : RowAt w' g 0 (listOf (rlAll n L0 0) m) := fun p hp => by
      rw [ll] at hp
      rw [Nat.zero_add, hc p hp, listOf_get _ _ _ hp]
      rfl
    have hi' : ∀ j, j < (listOf (rlAll n L0 0) m).length → -2147483648 ≤ (listOf (rlAll n L0 0) m).getD j 0 ∧ (listOf (rlAll n L0 0) m).getD j 0 ≤ 2147483647 := fun j hj => by
      rw [listOf_get _ _ _ (by omega)]
      show (-2147483648 : Int) ≤ 2147483647 ∧ (2147483647 : Int) ≤ 2147483647
      decide
    have P := rof_main n g 0 cap (listOf (rlAll n L0 0) m) w' h (by omega) hR' hi'
    have os := of_same n (listOf (rlAll n L0 0) m) (by omega) (fun j hj => (hi' j (by omega)).2)
    rw [ll] at P os
    rw [lims_same (L := L0) (k := 0) hm rfl, ← hm] at os
    refine P.mono ?_
    rintro e w'' ⟨hb, ⟨h1, -⟩ | ⟨-, h1⟩⟩
    · exfalso
      rw [allRight_of _ _ (fun j hj => by rw [listOf_get _ _ _ hj]; rfl)] at h1
      cases h1
    · rw [os] at h1
      exact ⟨h1, hb⟩
  clear hm
  generalize (zoneR n (startR n (n + 1) 0)).map (fun c => listOf c m) = Z at *
  go_enter Try.func9, Try.ntmps9
  go_wp2_with fail
  refine IN.out.mono ?_
  rintro e w1 ⟨⟨g, capg, rfl, lg, lt, hc, hf⟩, hb⟩
  have O := hideD (OF.out g capg w1 hc)
  have B1 := hideD hb
  clear hc hf hb IN OF
  go_wp2_with fail
  go_loopw [7] (fun s wr => s = .int .i64 0 ∧ wr = w1) (fun s _ => 1)
  case atStart => exact ⟨rfl, rfl⟩
  case round =>
    obtain ⟨rfl, rfl⟩ := hrel
    go_wp2_with fail
    refine O.out.mono ?_
    rintro e' w3 ⟨hz, hb⟩
    have hB3 := hideD (beyondD B1.out hb)
    clear O hb
    cases Z with
    | none =>
      obtain rfl := hz
      go_wp2_with fail
      exact bodyPost_ret (v := .tuple #[.pointer none, .int .i64 10]) (by simp [results, Try.results9, go_sem]) rfl ⟨hB3.out, 0, rfl⟩
    | some l =>
      obtain ⟨b', rfl, hz⟩ := hz
      have HZ := hideD hz
      clear hz
      go_wp2_with fail
      exact bodyPost_ret (v := .tuple #[.pointer (some ⟨b', 0, none⟩), .int .i64 0]) (by simp [results, Try.results9, go_sem]) rfl ⟨hB3.out, _, b', rfl, HZ.out⟩
/-- An answer of two, handed on. -/
theorem runiverse_any (n m : Nat) (w : World) (h : n ≤ 8) (hm : m = (n + 1) * (n + 1)) :
    Calls Try.prog 11 #[.int .i64 n] w fun e w' => Below w.heap.size w w' ∧ ∃ B', RZoneOut w' B' n e ((zoneR n (startR n (n + 1) 0)).map (fun c => listOf c m)) := by
  have H := hideD (rlimits_zero n m 0 none w h hm)
  clear hm
  generalize (zoneR n (startR n (n + 1) 0)).map (fun c => listOf c m) = Z at *
  go_enter Try.func11, Try.ntmps11
  go_wp2_with fail
  refine H.out.mono ?_
  rintro e' w3 ⟨hb, B', hz⟩
  cases Z with
  | none =>
    obtain rfl := hz
    go_wp2_with fail
    exact bodyPost_ret (v := .tuple #[.pointer none, .int .i64 10]) (by simp [results, Try.results11, go_sem]) rfl ⟨hb, 0, rfl⟩
  | some l =>
    obtain ⟨b', rfl, hz⟩ := hz
    have HZ := hideD hz
    have HB := hideD hb
    clear hz hb
    go_wp2_with fail
    exact bodyPost_ret (v := .tuple #[.pointer (some ⟨b', 0, none⟩), .int .i64 0]) (by simp [results, Try.results11, go_sem]) rfl ⟨HB.out, B', b', rfl, HZ.out⟩
theorem runiverse_clock (n : Int) (w : World) (h : ¬ (0 ≤ n ∧ n ≤ 8)) :
    Calls Try.prog 11 #[.int .i64 n] w fun e w' => e = errOf 12 ∧ w' = w := by
  have H := hideD (rlimits_clock n (.slice none 0 0) w h)
  go_enter Try.func11, Try.ntmps11
  go_wp2_with fail
  refine H.out.mono ?_
  rintro e' w3 ⟨rfl, rfl⟩
  go_wp2_with fail
  exact bodyPost_ret (v := .tuple #[.pointer none, .int .i64 12]) (by simp [results, Try.results11, go_sem]) rfl ⟨rfl, rfl⟩
/-! ### Zero -/
def LZ (n : Nat) : Lims := ⟨n, fun k => (k : Int) + 1, fun _ => 0, fun _ => 1⟩
theorem okLZ (n : Nat) : ∀ k, k ≤ n → okAll n (LZ n) k = true := by
  intro k
  induction k with
  | zero => exact fun _ => rfl
  | succ k ih =>
    intro hk
    rw [okAll, ih (by omega), Bool.true_and]
    unfold okL LZ
    simp
    refine ⟨by omega, by decide⟩
theorem tlZ (n : Nat) (r : Mat) : ∀ k, tlAll (LZ n) k r = zeroR k r := by
  intro k
  induction k with
  | zero => rfl
  | succ k ih =>
    show tg (tlAll (LZ n) k r) ((k : Int) + 1).toNat (0 : Int).toNat 1 = tg (zeroR k r) (k + 1) 0 1
    rw [ih]
    rfl
set_option maxHeartbeats 4000000 in
theorem rzero_any (n m : Nat) (w : World) (h : n ≤ 8) (hm : m = (n + 1) * (n + 1)) :
    Calls Try.prog 13 #[.int .i64 n] w fun e w' => Below w.heap.size w w' ∧ ∃ B', RZoneOut w' B' n e ((zoneR n (zeroR n (startR n (n + 1) 0))).map (fun c => listOf c m)) := by
  have LI : Hid (∀ v w', w'.ownsRow w.heap.size 39 3 v n (fl (LZ n) n) → Calls Try.prog 9 #[.int .i64 n, v] w' fun e w'' => Below w'.heap.size w' w'' ∧ ∃ B', RZoneOut w'' B' n e ((zoneR n (zeroR n (startR n (n + 1) 0))).map (fun c => listOf c m))) := fun v w' ho => by
    by_cases n0 : n = 0
    · subst n0
      obtain ⟨ad, cap, rfl⟩ : ∃ ad cap, v = .slice ad 0 cap := by
        rcases ho.2 with ⟨hv, _⟩ | ⟨g, cap, cur, hv, _⟩
        · exact ⟨none, 0, hv⟩
        · exact ⟨_, cap, hv⟩
      exact rlimits_zero 0 m cap ad w' h hm
    · obtain ⟨k, rfl⟩ : ∃ k, n = k + 1 := ⟨n - 1, by omega⟩
      obtain ⟨g, cap, rfl⟩ := own_form3 ho
      have lt := ho.lt g rfl
      have lr : LimRow w' g 0 (LZ (k + 1)) := cells_row fun j hj => by
        have hj' : j < 3 * (k + 1) := hj
        rw [Nat.zero_add, ho.cellAt j (by omega), fl_get _ _ _ hj']
      refine (rlimits_main (k + 1) g 0 cap m (LZ (k + 1)) w' h hm lr lt.2 (fun j _ => by show (-2147483648 : Int) ≤ 1 ∧ (1 : Int) ≤ 2147483647; decide) (by show k + 1 ≤ _; omega)).mono ?_
      rintro e w'' ⟨hb, ⟨h1, -⟩ | ⟨-, h1⟩⟩
      · exfalso
        rw [show (LZ (k + 1)).q = k + 1 from rfl, okLZ (k + 1) (k + 1) (Nat.le_refl _)] at h1
        cases h1
      · rw [show (LZ (k + 1)).q = k + 1 from rfl, tlZ] at h1
        exact ⟨hb, h1⟩
  obtain ⟨i0, hi0, hz0, hz1, hz2⟩ := info3 info_lim
  have NX : Hid (∀ k, fl (LZ n) (k + 1) = fl (LZ n) k ++ [.int .i64 ((k : Int) + 1), .int .i64 0, .int .i32 1]) := fun k => fl_next (LZ n) k
  have FL : Hid (∀ k, (fl (LZ n) k).length = 3 * k) := fl_len (LZ n)
  have F0 : Hid (fl (LZ n) 0 = []) := rfl
  clear hm
  generalize (zoneR n (zeroR n (startR n (n + 1) 0))).map (fun c => listOf c m) = Z at *
  generalize fl (LZ n) = fz at *
  have n8 : (n : Int) ≤ 8 := by omega
  go_enter Try.func13, Try.ntmps13
  go_wp2_with fail
  go_loopw [4, 5] (fun v i wr => ∃ k : Nat, k ≤ n ∧ i = .int .i64 ((k + 1 : Nat) : Int) ∧ Hid (wr.ownsRow w.heap.size 39 3 v k (fz k)) ∧ Hid (Below w.heap.size w wr)) (fun _ i _ => n + 1 - (intOf i).toNat)
  case atStart => exact ⟨0, Nat.zero_le _, rfl, by show World.ownsRow _ _ _ _ _ _ _; rw [F0.out]; exact World.ownsRow_nil _ _ _ _, Below.refl _ _⟩
  case round =>
    obtain ⟨k, hk, rfl, hown, hB⟩ := hrel
    by_cases hlt : k < n
    · have hsz := hB.out.size
      have k1 : (k : Int) + 1 ≤ (n : Int) := by omega
      have HN : Hid (∀ j u, [Value.int .i64 ((k : Int) + 1), .int .i64 0, .int .i32 1][j]? = some u → (wr.alloc (.cells #[.int .i64 ((k : Int) + 1), .int .i64 0, .int .i32 1] 39)).cell? ((⟨wr.heap.size, 0, none⟩ : Addr).add j) = some u) := by
        intro j u hj
        rw [Addr.add_lit, World.cell?_alloc_at _ _ _ _ rfl]
        simpa using hj
      go_wp2_with (at_builtin; refine wpList_append_own _ rfl _ _ 23 rfl w.heap.size 39 i0 (.agg #[.int .i64 0, .int .i64 0, .int .i32 0]) 3 24 Try.underlying23 hi0 hz0 hz1 hz2 rfl (by decide) _ k (fz k) rfl (hown.out.alloc _) ⟨wr.heap.size, 0, none⟩ 1 1 [.int .i64 ((k : Int) + 1), .int .i64 0, .int .i32 1] rfl rfl HN.out (fun u hu => by simp at hu; rcases hu with rfl | rfl | rfl <;> rfl) (by unfold maxLen; omega) (by omega) (by simp; omega) ?_; intro v' w1 hown' hgrow hnil)
      have hb1 : Below w.heap.size w w1 := (hB.out.alloc hsz _).grown hgrow (by simp; omega) (by intro q hq; exact (hown.out.lt q hq).1)
      have hb2 := hideD hb1
      have nx' : Hid (w1.ownsRow w.heap.size 39 3 v' (k + 1) (fz (k + 1))) := by
        show w1.ownsRow _ _ _ _ _ _
        rw [NX.out]
        exact hown'
      clear hown' hgrow hnil hb1 hown HN
      exact ⟨⟨k + 1, by omega, by go_num, nx', hb2⟩, by simp [intOf]; omega⟩
    · obtain rfl : k = n := by omega
      have LL := hideD (LI.out _ _ hown.out)
      have k2 : ¬ ((k : Int) + 1 ≤ (k : Int)) := by omega
      clear hown LI
      go_wp2_with fail
      refine LL.out.mono ?_
      rintro e' w3 ⟨hb, B', hz⟩
      have hB3 := hideD (beyondD hB.out hb)
      clear LL hb
      cases Z with
      | none =>
        obtain rfl := hz
        go_wp2_with fail
        exact bodyPost_ret (v := .tuple #[.pointer none, .int .i64 10]) (by simp [results, Try.results13, go_sem]) rfl ⟨hB3.out, 0, rfl⟩
      | some l =>
        obtain ⟨b', rfl, hz⟩ := hz
        have HZ := hideD hz
        clear hz
        go_wp2_with fail
        exact bodyPost_ret (v := .tuple #[.pointer (some ⟨b', 0, none⟩), .int .i64 0]) (by simp [results, Try.results13, go_sem]) rfl ⟨hB3.out, B', b', rfl, HZ.out⟩
set_option maxHeartbeats 1000000 in
theorem rzero_clock (n : Int) (w : World) (h : ¬ (0 ≤ n ∧ n ≤ 8)) :
    Calls Try.prog 13 #[.int .i64 n] w fun e w' => e = errOf 12 ∧ w' = w := by
  have H := hideD (rlimits_clock n (.slice none 0 0) w h)
  by_cases c : n < 1
  · go_enter Try.func13, Try.ntmps13
    go_wp2_with fail
    go_loopw [4, 5] (fun v i wr => v = .slice none 0 0 ∧ i = .int .i64 1 ∧ wr = w) (fun _ _ _ => 1)
    case atStart => exact ⟨rfl, rfl, rfl⟩
    case round =>
      obtain ⟨rfl, rfl, rfl⟩ := hrel
      go_wp2_with fail
      refine H.out.mono ?_
      rintro e' w3 ⟨rfl, rfl⟩
      go_wp2_with fail
      exact bodyPost_ret (v := .tuple #[.pointer none, .int .i64 12]) (by simp [results, Try.results13, go_sem]) rfl ⟨rfl, rfl⟩
  · have c2 : 8 < n := by omega
    have c3 : decide (n ≤ 8) = false := by simp; omega
    go_enter Try.func13, Try.ntmps13
    go_wp2_with fail
    go_loopw [4, 5] (fun v i wr => v = .slice none 0 0 ∧ i = .int .i64 1 ∧ wr = w) (fun _ _ _ => 1)
    case atStart => exact ⟨rfl, rfl, rfl⟩
    case round =>
      obtain ⟨rfl, rfl, rfl⟩ := hrel
      go_wp2_with fail
      refine H.out.mono ?_
      rintro e' w3 ⟨rfl, rfl⟩
      go_wp2_with fail
      exact bodyPost_ret (v := .tuple #[.pointer none, .int .i64 12]) (by simp [results, Try.results13, go_sem]) rfl ⟨rfl, rfl⟩
/-! ### Dim, Empty, and nil -/
theorem zdim_any (b n : Nat) (c : Row) (w : World) (hz : ZoneAt w b n c) : Calls Try.prog 14 #[.pointer (some ⟨b, 0, none⟩)] w fun e w' => e = .returned (.int .i64 n) ∧ w' = w := by
  have h0 := hz.clocks
  clear hz
  go_enter Try.func14, Try.ntmps14
  go_wp2_with fail
  go_ret
  exact ⟨rfl, rfl⟩
theorem zdim_nil (w : World) : Calls Try.prog 14 #[.pointer none] w fun e w' => e = .returned (.int .i64 0) ∧ w' = w := by
  go_enter Try.func14, Try.ntmps14
  go_wp2_with fail
  go_ret
  exact ⟨rfl, rfl⟩
theorem rdim_any {w : World} {B b n : Nat} {l : List Int} (h : RZone w B b n l) : Calls Try.prog 15 #[.pointer (some ⟨b, 0, none⟩)] w fun e w' => e = .returned (.int .i64 n) ∧ w' = w := by
  obtain ⟨g, cap, h0, -⟩ := h
  go_enter Try.func15, Try.ntmps15
  go_wp2_with fail
  go_ret
  exact ⟨rfl, rfl⟩
theorem rdim_nil (w : World) : Calls Try.prog 15 #[.pointer none] w fun e w' => e = .returned (.int .i64 0) ∧ w' = w := by
  go_enter Try.func15, Try.ntmps15
  go_wp2_with fail
  go_ret
  exact ⟨rfl, rfl⟩
theorem zempty_any (b n : Nat) (c : Row) (w : World) (hn : n ≤ 8) (hz : ZoneAt w b n c) :
    Calls Try.prog 16 #[.pointer (some ⟨b, 0, none⟩)] w fun e w' => e = .returned (.bool (decide (c 0 < 1))) ∧ Below w.heap.size w w' := by
  have H := hideD (hollow_any b n c w hn hz)
  generalize decide (c 0 < 1) = q at *
  clear hz
  go_enter Try.func16, Try.ntmps16
  go_wp2_with fail
  refine H.out.mono ?_
  rintro e w' ⟨rfl, hb⟩
  go_wp2_with fail
  go_ret
  exact ⟨rfl, hb⟩
theorem zempty_nil (w : World) : Calls Try.prog 16 #[.pointer none] w fun e w' => e = .returned (.bool false) ∧ w' = w := by
  go_enter Try.func16, Try.ntmps16
  go_wp2_with fail
  go_ret
  exact ⟨rfl, rfl⟩
theorem rempty_nil (w : World) : Calls Try.prog 17 #[.pointer none] w fun e w' => e = .returned (.bool false) ∧ w' = w := by
  go_enter Try.func17, Try.ntmps17
  go_wp2_with fail
  go_ret
  exact ⟨rfl, rfl⟩
theorem zero_clock (n : Int) (w : World) (h : ¬ (0 ≤ n ∧ n ≤ 8)) :
    Calls Try.prog 12 #[.int .i64 n] w fun e w' => e = errOf 12 ∧ w' = w := by
  have H : Hid (Calls Try.prog 28 #[.int .i64 n] w fun e w' => e = .returned (.bool false) ∧ w' = w) := by
    have := mayHave_any n w
    rw [decide_eq_false h] at this
    exact this
  clear h
  go_enter Try.func12, Try.ntmps12
  go_wp2_with fail
  refine H.out.mono ?_
  rintro e w' ⟨rfl, rfl⟩
  go_wp2_with fail
  refine bodyPost_ret (v := .tuple #[.pointer none, .int .i64 12]) (by simp [results, Try.results12, go_sem]) rfl ⟨rfl, rfl⟩
end Go.Proofs.Ytbcfaepmhlanjaa
