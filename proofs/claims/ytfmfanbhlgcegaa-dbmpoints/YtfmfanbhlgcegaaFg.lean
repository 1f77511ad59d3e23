/-
  The walk of the statement DbmPoints.
-/
import Derived.Test.YtfmfanbhlgcegaaFf
import Derived.Test.YtfmfanbhlgcegaaFe
import Derived.Test.YtfmfanbhlgcegaaDk
import Derived.OpenShut
namespace Go.Proofs.Ytfmfanbhlgcegaa
open Go.RowKit
set_option linter.unusedVariables false
set_option maxRecDepth 100000
/-- A slice that was handed in reads as these bounds. -/
def SliceAt (w : World) (v : Value) (l : List Int) : Prop := (∃ ad c, v = .slice ad 0 c ∧ l = []) ∨ (∃ b off cap, v = .slice (some ⟨b, off, none⟩) l.length cap ∧ ∀ j, j < l.length → w.cell? ⟨b, off + j, none⟩ = some (.int .i32 (l.getD j 0)))
theorem wf_list {l : List Int} (wf : ∀ z ∈ l, (Lit.int .i32 z).wf = true) : ∀ j, j < l.length → -2147483648 ≤ l.getD j 0 ∧ l.getD j 0 ≤ 2147483647 := fun j hj => by
  have e : l.getD j 0 = l[j] := by simp [List.getD, hj]
  rw [e]
  exact bounds_i32 (wf _ (List.getElem_mem hj))
theorem allRight_at {l : List Int} {m : Nat} (h : allRight l m = true) (k : Nat) (hk : k < m) : rightB (l.getD k 0) = true := by
  induction m with
  | zero => omega
  | succ m ih =>
    simp only [allRight, Bool.and_eq_true] at h
    by_cases e : k = m
    · subst e; exact h.2
    · exact ih h.1 (by omega)
/-- What Of says of a row in whatever later world: an error, of both; or a zone. -/
def OfTells (w : World) (n : Int) (v : Value) (l : List Int) : Prop :=
  (∃ e : Int, (e != 0) = true ∧ (∀ w', Below w.heap.size w w' → Calls Try.prog 4 #[.int .i64 n, v] w' fun x w'' => x = errOf e ∧ Below w'.heap.size w' w'') ∧ (∀ w', Below w.heap.size w w' → Calls Try.prog 5 #[.int .i64 n, v] w' fun x w'' => x = errOf e ∧ Below w'.heap.size w' w'')) ∨
  (∃ (N : Nat) (c : Row) (cb off cap : Nat), n = N ∧ N ≤ 8 ∧ l.length = (N + 1) * (N + 1) ∧ v = .slice (some ⟨cb, off, none⟩) l.length cap ∧ RowAt w cb off l ∧ (∀ k, k < l.length → rightB (l.getD k 0) = true) ∧ zoneR N (tgAll N l l.length (startR N (N + 1) 0)) = some c ∧
    (∀ w', Below w.heap.size w w' → Calls Try.prog 4 #[.int .i64 n, v] w' fun x w'' => Below w'.heap.size w' w'' ∧ ZoneOut w'' w'.heap.size N x (some c)))
theorem of_tells (n : Int) (v : Value) (l : List Int) (w : World) (hS : SliceAt w v l) (hi : ∀ j, j < l.length → -2147483648 ≤ l.getD j 0 ∧ l.getD j 0 ≤ 2147483647) (hby : l.length ≤ 9223372036854775807) : OfTells w n v l := by
  have same : ∀ {f : Nat} {e : Int} (w' : World), Calls Try.prog f #[.int .i64 n, v] w' (fun x w'' => x = errOf e ∧ w'' = w') → Calls Try.prog f #[.int .i64 n, v] w' (fun x w'' => x = errOf e ∧ Below w'.heap.size w' w'') := fun w' h => h.mono fun x w'' ⟨hx, hw⟩ => ⟨hx, by rw [hw]; exact Below.refl _ _⟩
  by_cases hn : 0 ≤ n ∧ n ≤ 8
  · obtain ⟨N, rfl⟩ := Int.eq_ofNat_of_zero_le hn.1
    have N8 : N ≤ 8 := by omega
    have mp : 0 < (N + 1) * (N + 1) := Nat.mul_pos (by omega) (by omega)
    by_cases hl : l.length = (N + 1) * (N + 1)
    · rcases hS with ⟨ad, c, rfl, rfl⟩ | ⟨cb, off, cap, rfl, hc⟩
      · exfalso
        simp at hl
      · have hcb : cb < w.heap.size := World.block_lt_of_cell? _ _ (hc 0 (by omega))
        have row : ∀ w', Below w.heap.size w w' → RowAt w' cb off l := fun w' hb j hj => (hb.cell (p := ⟨cb, off + j, none⟩) hcb).trans (hc j hj)
        have P := fun w' hb => of_main N cb off cap l w' N8 hl (row w' hb) hi
        have R := fun w' hb => rof_main N cb off cap l w' N8 hl (row w' hb) hi
        cases ha : allRight l l.length
        · refine .inl ⟨7, rfl, fun w' hb => (P w' hb).mono fun x w'' h => ?_, fun w' hb => (R w' hb).mono fun x w'' h => ?_⟩
          · obtain ⟨h1, ⟨-, h2⟩ | ⟨h2, -⟩⟩ := h
            · exact ⟨h2, h1⟩
            · rw [ha] at h2; cases h2
          · obtain ⟨h1, ⟨-, h2⟩ | ⟨h2, -⟩⟩ := h
            · exact ⟨h2, h1⟩
            · rw [ha] at h2; cases h2
        · have os := of_same N l hl (fun j hj => (hi j (by omega)).2)
          cases hz : zoneR N (tgAll N l l.length (startR N (N + 1) 0)) with
          | none =>
            rw [hz] at os
            refine .inl ⟨10, rfl, fun w' hb => (P w' hb).mono fun x w'' h => ?_, fun w' hb => (R w' hb).mono fun x w'' h => ?_⟩
            · obtain ⟨h1, ⟨h2, -⟩ | ⟨-, h2⟩⟩ := h
              · rw [ha] at h2; cases h2
              · rw [hz] at h2; exact ⟨h2, h1⟩
            · obtain ⟨h1, ⟨h2, -⟩ | ⟨-, h2⟩⟩ := h
              · rw [ha] at h2; cases h2
              · rw [os] at h2; exact ⟨h2, h1⟩
          | some c =>
            refine .inr ⟨N, c, cb, off, cap, rfl, N8, hl, rfl, row w (Below.refl _ _), fun k hk => allRight_at ha k hk, hz, fun w' hb => (P w' hb).mono fun x w'' h => ?_⟩
            obtain ⟨h1, ⟨h2, -⟩ | ⟨-, h2⟩⟩ := h
            · rw [ha] at h2; cases h2
            · rw [hz] at h2; exact ⟨h1, h2⟩
    · obtain ⟨ad, cap, rfl⟩ : ∃ ad cap, v = .slice ad l.length cap := by
        rcases hS with ⟨ad, c, rfl, rfl⟩ | ⟨cb, off, cap, rfl, hc⟩
        · exact ⟨ad, c, rfl⟩
        · exact ⟨_, cap, rfl⟩
      exact .inl ⟨6, rfl, fun w' hb => of_long N l.length cap ad w' N8 hl hby, fun w' hb => same w' (rof_long N l.length cap _ ad w' N8 rfl hl)⟩
  · exact .inl ⟨12, rfl, fun w' hb => same w' (of_clock n v w' hn), fun w' hb => same w' (rof_clock n v w' hn)⟩
theorem empty_any (b n : Nat) (c : Row) (w : World) (hn : n ≤ 8) (hz : ZoneAt w b n c) :
    Calls Try.prog 10 #[.pointer (some ⟨b, 0, none⟩)] w fun e w' => e = .returned (.bool (decide (c 0 < 1))) ∧ Below w.heap.size w w' := by
  have H := hideD (hollow_any b n c w hn hz)
  generalize decide (c 0 < 1) = q at *
  clear hz
  go_enter Try.func10, Try.ntmps10
  go_wp2_with fail
  refine H.out.mono ?_
  rintro e w' ⟨rfl, hb⟩
  go_wp2_with fail
  go_ret
  exact ⟨rfl, hb⟩
def gr (n I : Nat) : Int := if I = 0 then 1 else if I = 1 then 2 else (n : Int) + 1
theorem gr_bd (n I : Nat) (hn : n ≤ 8) : 1 ≤ gr n I ∧ gr n I ≤ 9 := by
  unfold gr
  split
  · omega
  · split <;> omega
theorem valU_bd (l : List Int) (hu : ∀ j, j < l.length → 0 ≤ l.getD j 0 ∧ l.getD j 0 ≤ 4294967295) (i : Nat) : 0 ≤ valU l i ∧ valU l i ≤ 4294967296 := by
  unfold valU
  split
  · omega
  · split
    · have := hu (i - 1) (by omega)
      omega
    · omega
set_option maxHeartbeats 4000000 in
theorem points_walk (N m cb off cap : Nat) (c : Row) (l lp : List Int) (vp : Value) (w : World) (N8 : N ≤ 8) (hm : m = (N + 1) * (N + 1)) (hl : l.length = m) (hR : RowAt w cb off l) (hr : ∀ k, k < m → rightB (l.getD k 0) = true) (hz : zoneR N (drf N m l) = some c)
    (h1 : Calls Try.prog 4 #[.int .i64 N, .slice (some ⟨cb, off, none⟩) m cap] w fun x w'' => Below w.heap.size w w'' ∧ ZoneOut w'' w.heap.size N x (some c))
    (hP : PointAt w vp lp) (hu : ∀ j, j < lp.length → 0 ≤ lp.getD j 0 ∧ lp.getD j 0 ≤ 4294967295) (hby : lp.length ≤ 9223372036854775807) :
    Calls Try.prog 3 #[.int .i64 N, .slice (some ⟨cb, off, none⟩) m cap, vp] w fun e w' => e = .returned (.bool true) ∧ Below w.heap.size w w' := by
  have m81 : m ≤ 81 := by rw [hm]; exact Nat.mul_le_mul (show N + 1 ≤ 9 by omega) (show N + 1 ≤ 9 by omega)
  have mp : 0 < m := by rw [hm]; exact Nat.mul_pos (by omega) (by omega)
  have hcb : cb < w.heap.size := World.block_lt_of_cell? _ _ (hR 0 (by omega))
  have rl : RightL m l := fun k hk => by
    have := hr k hk
    unfold rightB at this
    simpa using this
  have PL : Hid (∀ I, kB N l (valU lp) (gr N I) = (kB N (listOf c m) (valU lp) (gr N I) && !decide (c 0 < 1))) := fun I => points_law N m l c (valU lp) (gr N I) N8 hm rl (gr_bd N I N8).1 rfl (fun i => (valU_bd lp hu i).1) hz
  have OC := of_closed N m l c N8 hm rl hz
  have CE : Hid (∀ w b e, ZoneAt w b N e → Calls Try.prog 7 #[.pointer (some ⟨b, 0, none⟩)] w fun x w' => (∃ v, x = .returned v ∧ OwnRow w' w.heap.size v (listOf e m)) ∧ Below w.heap.size w w') := fun w b e h => by
    have := cells_any b N e w h N8
    rw [← hm] at this
    exact this
  have cr : ∀ k, k < m → rightB ((listOf c m).getD k 0) = true ∧ -2147483648 ≤ (listOf c m).getD k 0 ∧ (listOf c m).getD k 0 ≤ 2147483647 := fun k hk => by
    rw [listOf_get _ _ _ hk]
    have nr : ∀ x, rightB (narB x) = true ∧ -2147483648 ≤ narB x ∧ narB x ≤ 2147483647 := fun x => by
      unfold narB rightB
      split
      · simp
      · split
        · simp
        · simp; omega
    unfold zoneR at hz
    split at hz
    · cases hz
      exact ⟨rfl, by show (-2147483648 : Int) ≤ 0; omega, by show (0 : Int) ≤ 2147483647; omega⟩
    · split at hz
      · cases hz
        unfold cellsUpto
        rw [if_pos (by omega)]
        exact nr _
      · cases hz
  have O2 : Hid (∀ g cap w', RowAt w' g 0 (listOf c m) → Calls Try.prog 4 #[.int .i64 N, .slice (some ⟨g, 0, none⟩) m cap] w' fun x w'' => Below w'.heap.size w' w'' ∧ ZoneOut w'' w'.heap.size N x (some c)) := fun g cap w' hR' => by
    have ll := listOf_len c m
    have P := of_main N g 0 cap (listOf c m) w' N8 (by omega) hR' (fun j hj => (cr j (by omega)).2)
    rw [ll] at P
    refine P.mono ?_
    rintro x w'' ⟨hb, ⟨h, -⟩ | ⟨-, h⟩⟩
    · exfalso
      have : allRight (listOf c m) m = true := by
        have ar : ∀ k, k ≤ m → allRight (listOf c m) k = true := fun k => by
          induction k with
          | zero => exact fun _ => rfl
          | succ k ih =>
            intro hk
            simp only [allRight, ih (by omega), (cr k (by omega)).1, Bool.and_self]
        exact ar m (Nat.le_refl _)
      rw [this] at h
      cases h
    · rw [OC] at h
      exact ⟨hb, h⟩
  have KX : Hid (∀ w' gv capv I, RowAt w' cb off l → ValAt w' gv N (valU lp) → Calls Try.prog 9 #[.int .i64 N, .slice (some ⟨cb, off, none⟩) m cap, .slice (some ⟨gv, 0, none⟩) (N + 1 : Nat) capv, .int .i64 (gr N I)] w' fun e w'' => e = .returned (.bool (kB N l (valU lp) (gr N I))) ∧ Below w'.heap.size w' w'') := fun w' gv capv I a b => by
    refine (keeps_any N m cb off cap gv capv l (valU lp) (gr N I) w' N8 hm hl a b hr (fun i _ => valU_bd lp hu i) (gr_bd N I N8).1 (gr_bd N I N8).2).mono ?_
    rintro e w'' ⟨rfl, k, rfl⟩
    exact ⟨rfl, below_draw _ _⟩
  have KY : Hid (∀ w' g cap gv capv I, RowAt w' g 0 (listOf c m) → ValAt w' gv N (valU lp) → Calls Try.prog 9 #[.int .i64 N, .slice (some ⟨g, 0, none⟩) m cap, .slice (some ⟨gv, 0, none⟩) (N + 1 : Nat) capv, .int .i64 (gr N I)] w' fun e w'' => e = .returned (.bool (kB N (listOf c m) (valU lp) (gr N I))) ∧ Below w'.heap.size w' w'') := fun w' g cap gv capv I a b => by
    refine (keeps_any N m g 0 cap gv capv (listOf c m) (valU lp) (gr N I) w' N8 hm (listOf_len _ _) a b (fun k hk => (cr k hk).1) (fun i _ => valU_bd lp hu i) (gr_bd N I N8).1 (gr_bd N I N8).2).mono ?_
    rintro e w'' ⟨rfl, k, rfl⟩
    exact ⟨rfl, below_draw _ _⟩
  have EM : Hid (∀ w' b, ZoneAt w' b N c → Calls Try.prog 10 #[.pointer (some ⟨b, 0, none⟩)] w' fun e w'' => e = .returned (.bool (decide (c 0 < 1))) ∧ Below w'.heap.size w' w'') := fun w' b h => empty_any b N c w' N8 h
  have VA : Hid (∀ w', Below w.heap.size w w' → Calls Try.prog 8 #[.int .i64 N, vp] w' fun e w'' => (∃ g cap, e = .returned (.slice (some ⟨g, 0, none⟩) (N + 1 : Nat) cap) ∧ w'.heap.size ≤ g ∧ ValAt w'' g N (valU lp)) ∧ Below w'.heap.size w' w'') := fun w' hb => by
    refine valuation_any N vp lp w' N8 ?_ hu hby
    rcases hP with h | ⟨b, off, cap, rfl, hc⟩
    · exact .inl h
    · exact .inr ⟨b, off, cap, rfl, fun j hj => kc _ _ hb (hc j hj)⟩
  have EQ : Hid (eqUpto c c 81 = true) := by
    show eqUpto c c 81 = true
    unfold eqUpto
    simp
  have GB : Hid (∀ I, 1 ≤ gr N I ∧ gr N I ≤ 9) := fun I => gr_bd N I N8
  have HR := hideD hR
  have H1 := hideD h1
  have lc := listOf_len c m
  clear hm hl hr hz h1 hP hu hby hR rl OC cr
  have m1 : (m : Int) ≤ 81 := by omega
  go_enter Try.func3, Try.ntmps3
  go_wp2_with fail
  refine H1.out.mono ?_
  rintro x w1 ⟨hb1, b, lb, rfl, z1⟩
  have Z1 := hideD z1
  have B1 := hideD hb1
  have C1 := hideD (CE.out _ _ _ z1)
  clear hb1 z1 H1 CE
  go_wp2_with fail
  refine C1.out.mono ?_
  rintro x w2 ⟨⟨v1, rfl, g1, cap1, rfl, lg1, l1, row1⟩, hb2⟩
  rw [lc]
  have Z2 := hideD (Z1.out.past hb2)
  have B2 := hideD (beyondD B1.out hb2)
  have R2 := hideD row1
  clear hb2 row1 Z1 B1 C1
  go_wp2_with fail
  have b3 := below_one w2 (.cells #[.int .i64 1, .int .i64 2, .int .i64 ((N : Int) + 1)] 33)
  have GC : Hid (∀ I, I < 3 → (w2.alloc (.cells #[.int .i64 1, .int .i64 2, .int .i64 ((N : Int) + 1)] 33)).cell? ⟨w2.heap.size, I, none⟩ = some (.int .i64 (gr N I))) := fun I hI => by
    rw [World.cell?_alloc_at _ _ _ _ rfl]
    have : I = 0 ∨ I = 1 ∨ I = 2 := by omega
    rcases this with rfl | rfl | rfl <;> rfl
  have Z3 := hideD (Z2.out.past b3)
  have R3 := hideD (R2.out.later b3 l1)
  have B3 := hideD (beyondD B2.out b3)
  have HR3 := hideD (HR.out.later B3.out hcb)
  generalize w2.alloc (.cells #[.int .i64 1, .int .i64 2, .int .i64 ((N : Int) + 1)] 33) = W at *
  generalize w2.heap.size = B at *
  clear b3 Z2 R2 B2 HR
  go_loopw [13] (fun s wr => ∃ (I : Nat), I ≤ 3 ∧ s = .int .i64 I ∧ Hid (Below W.heap.size W wr)) (fun s _ => 3 - (intOf s).toNat)
  case atStart => exact ⟨0, by omega, rfl, Below.refl _ _⟩
  case round =>
    obtain ⟨I, hI, rfl, BW⟩ := hrel
    by_cases ci : I < 3
    · have V := hideD (VA.out wr (beyondD B3.out BW.out))
      have i0 : (0 : Int) ≤ (I : Int) := by omega
      have i1 : (I : Int) < 3 := by omega
      go_wp2_with fail
      refine V.out.mono ?_
      rintro x w5 ⟨⟨gv, capv, rfl, lgv, va⟩, hb5⟩
      have L5 : Hid (W.heap.size ≤ w5.heap.size) := by
        show W.heap.size ≤ w5.heap.size
        exact Nat.le_trans BW.out.size hb5.size
      have B5 := hideD (beyondD BW.out hb5)
      have a0 := kc _ _ B5.out (GC.out I ci)
      have KX5 : Hid (∀ w', Below w5.heap.size w5 w' → Calls Try.prog 9 #[.int .i64 N, .slice (some ⟨cb, off, none⟩) m cap, .slice (some ⟨gv, 0, none⟩) (N + 1 : Nat) capv, .int .i64 (gr N I)] w' fun e w'' => e = .returned (.bool (kB N l (valU lp) (gr N I))) ∧ Below w'.heap.size w' w'') := fun w' hb => KX.out w' gv capv I (fun j hj => kc _ _ hb (kc _ _ B5.out (HR3.out j hj))) (fun i hi => kc _ _ hb (va i hi))
      have KY5 : Hid (∀ w', Below w5.heap.size w5 w' → Calls Try.prog 9 #[.int .i64 N, .slice (some ⟨g1, 0, none⟩) m cap1, .slice (some ⟨gv, 0, none⟩) (N + 1 : Nat) capv, .int .i64 (gr N I)] w' fun e w'' => e = .returned (.bool (kB N (listOf c m) (valU lp) (gr N I))) ∧ Below w'.heap.size w' w'') := fun w' hb => KY.out w' g1 cap1 gv capv I (fun j hj => kc _ _ hb (kc _ _ B5.out (R3.out j hj))) (fun i hi => kc _ _ hb (va i hi))
      have EM5 : Hid (∀ w', Below w5.heap.size w5 w' → Calls Try.prog 10 #[.pointer (some ⟨b, 0, none⟩)] w' fun e w'' => e = .returned (.bool (decide (c 0 < 1))) ∧ Below w'.heap.size w' w'') := fun w' hb => EM.out w' b ((Z3.out.past B5.out).past hb)
      have PLI := hideD (PL.out I)
      obtain ⟨gl, gu⟩ := GB.out I
      clear hb5 V va KX KY EM PL GC VA BW
      generalize gr N I = G at *
      generalize kB N l (valU lp) G = q1 at *
      generalize kB N (listOf c m) (valU lp) G = q2 at *
      generalize decide (c 0 < 1) = em at *
      cases q2 with
      | false =>
        have e1 : q1 = false := PLI.out
        subst e1
        go_upto_region 13 with (fail)
        go_cut [73] (fun t w' => t = .bool false ∧ Below w5.heap.size w5 w')
        case first =>
          first
          | go_region_with
            (first
              | (go_at_call_of 9 cb; refine (KX5.out _ (by first | with_reducible assumption | with_reducible exact Below.drew (Below.refl _ _) | with_reducible exact Below.refl _ _ | with_reducible exact Below.drew hX | with_reducible exact Below.drew hY | with_reducible exact Below.drew hE)).mono ?_; rintro x w6 ⟨rfl, hb⟩; have s1 := kc ⟨B, I, none⟩ (.int .i64 G) hb (by first | exact a0 | exact s2 | exact s3); have hX := beyondD (w := w5) (by first | with_reducible assumption | with_reducible exact Below.drew (Below.refl _ _) | with_reducible exact Below.refl _ _ | with_reducible exact Below.drew hX | with_reducible exact Below.drew hY | with_reducible exact Below.drew hE) hb; clear hb)
              | (go_at_call 9; refine (KY5.out _ (by first | with_reducible assumption | with_reducible exact Below.drew (Below.refl _ _) | with_reducible exact Below.refl _ _ | with_reducible exact Below.drew hX | with_reducible exact Below.drew hY | with_reducible exact Below.drew hE)).mono ?_; rintro x w7 ⟨rfl, hb⟩; have s2 := kc ⟨B, I, none⟩ (.int .i64 G) hb (by first | exact a0 | exact s1 | exact s3); have hY := beyondD (w := w5) (by first | with_reducible assumption | with_reducible exact Below.drew (Below.refl _ _) | with_reducible exact Below.refl _ _ | with_reducible exact Below.drew hX | with_reducible exact Below.drew hY | with_reducible exact Below.drew hE) hb; clear hb)
              | (go_at_call 10; refine (EM5.out _ (by first | with_reducible assumption | with_reducible exact Below.drew (Below.refl _ _) | with_reducible exact Below.refl _ _ | with_reducible exact Below.drew hX | with_reducible exact Below.drew hY | with_reducible exact Below.drew hE)).mono ?_; rintro x w8 ⟨rfl, hb⟩; have s3 := kc ⟨B, I, none⟩ (.int .i64 G) hb (by first | exact s2 | exact s1 | exact a0); have hE := beyondD (w := w5) (by first | with_reducible assumption | with_reducible exact Below.drew (Below.refl _ _) | with_reducible exact Below.refl _ _ | with_reducible exact Below.drew hX | with_reducible exact Below.drew hY | with_reducible exact Below.drew hE) hb; clear hb))
          | fail
          all_goals go_wp2_with fail
          all_goals go_meet
          all_goals exact ⟨rfl, by assumption⟩
        case rest =>
          obtain ⟨rfl, hb6⟩ := hcut
          have B6 := hideD (B5.out.trans (hb6.mono L5.out))
          go_wp2_with fail
          go_roundw
          case rel => exact ⟨I + 1, by omega, by go_num, B6⟩
          case measure => simp [intOf]; omega
      | true =>
        cases em with
        | true =>
          have e1 : q1 = false := PLI.out
          subst e1
          go_upto_region 13 with (fail)
          go_cut [73] (fun t w' => t = .bool false ∧ Below w5.heap.size w5 w')
          case first =>
            first
            | go_region_with
              (first
              | (go_at_call_of 9 cb; refine (KX5.out _ (by first | with_reducible assumption | with_reducible exact Below.drew (Below.refl _ _) | with_reducible exact Below.refl _ _ | with_reducible exact Below.drew hX | with_reducible exact Below.drew hY | with_reducible exact Below.drew hE)).mono ?_; rintro x w6 ⟨rfl, hb⟩; have s1 := kc ⟨B, I, none⟩ (.int .i64 G) hb (by first | exact a0 | exact s2 | exact s3); have hX := beyondD (w := w5) (by first | with_reducible assumption | with_reducible exact Below.drew (Below.refl _ _) | with_reducible exact Below.refl _ _ | with_reducible exact Below.drew hX | with_reducible exact Below.drew hY | with_reducible exact Below.drew hE) hb; clear hb)
              | (go_at_call 9; refine (KY5.out _ (by first | with_reducible assumption | with_reducible exact Below.drew (Below.refl _ _) | with_reducible exact Below.refl _ _ | with_reducible exact Below.drew hX | with_reducible exact Below.drew hY | with_reducible exact Below.drew hE)).mono ?_; rintro x w7 ⟨rfl, hb⟩; have s2 := kc ⟨B, I, none⟩ (.int .i64 G) hb (by first | exact a0 | exact s1 | exact s3); have hY := beyondD (w := w5) (by first | with_reducible assumption | with_reducible exact Below.drew (Below.refl _ _) | with_reducible exact Below.refl _ _ | with_reducible exact Below.drew hX | with_reducible exact Below.drew hY | with_reducible exact Below.drew hE) hb; clear hb)
              | (go_at_call 10; refine (EM5.out _ (by first | with_reducible assumption | with_reducible exact Below.drew (Below.refl _ _) | with_reducible exact Below.refl _ _ | with_reducible exact Below.drew hX | with_reducible exact Below.drew hY | with_reducible exact Below.drew hE)).mono ?_; rintro x w8 ⟨rfl, hb⟩; have s3 := kc ⟨B, I, none⟩ (.int .i64 G) hb (by first | exact s2 | exact s1 | exact a0); have hE := beyondD (w := w5) (by first | with_reducible assumption | with_reducible exact Below.drew (Below.refl _ _) | with_reducible exact Below.refl _ _ | with_reducible exact Below.drew hX | with_reducible exact Below.drew hY | with_reducible exact Below.drew hE) hb; clear hb))
            | fail
            all_goals go_wp2_with fail
            all_goals go_meet
            all_goals exact ⟨rfl, by assumption⟩
          case rest =>
            obtain ⟨rfl, hb6⟩ := hcut
            have B6 := hideD (B5.out.trans (hb6.mono L5.out))
            go_wp2_with fail
            go_roundw
            case rel => exact ⟨I + 1, by omega, by go_num, B6⟩
            case measure => simp [intOf]; omega
        | false =>
          have e1 : q1 = true := PLI.out
          subst e1
          go_upto_region 13 with (fail)
          go_cut [73] (fun t w' => t = .bool false ∧ Below w5.heap.size w5 w')
          case first =>
            first
            | go_region_with
              (first
              | (go_at_call_of 9 cb; refine (KX5.out _ (by first | with_reducible assumption | with_reducible exact Below.drew (Below.refl _ _) | with_reducible exact Below.refl _ _ | with_reducible exact Below.drew hX | with_reducible exact Below.drew hY | with_reducible exact Below.drew hE)).mono ?_; rintro x w6 ⟨rfl, hb⟩; have s1 := kc ⟨B, I, none⟩ (.int .i64 G) hb (by first | exact a0 | exact s2 | exact s3); have hX := beyondD (w := w5) (by first | with_reducible assumption | with_reducible exact Below.drew (Below.refl _ _) | with_reducible exact Below.refl _ _ | with_reducible exact Below.drew hX | with_reducible exact Below.drew hY | with_reducible exact Below.drew hE) hb; clear hb)
              | (go_at_call 9; refine (KY5.out _ (by first | with_reducible assumption | with_reducible exact Below.drew (Below.refl _ _) | with_reducible exact Below.refl _ _ | with_reducible exact Below.drew hX | with_reducible exact Below.drew hY | with_reducible exact Below.drew hE)).mono ?_; rintro x w7 ⟨rfl, hb⟩; have s2 := kc ⟨B, I, none⟩ (.int .i64 G) hb (by first | exact a0 | exact s1 | exact s3); have hY := beyondD (w := w5) (by first | with_reducible assumption | with_reducible exact Below.drew (Below.refl _ _) | with_reducible exact Below.refl _ _ | with_reducible exact Below.drew hX | with_reducible exact Below.drew hY | with_reducible exact Below.drew hE) hb; clear hb)
              | (go_at_call 10; refine (EM5.out _ (by first | with_reducible assumption | with_reducible exact Below.drew (Below.refl _ _) | with_reducible exact Below.refl _ _ | with_reducible exact Below.drew hX | with_reducible exact Below.drew hY | with_reducible exact Below.drew hE)).mono ?_; rintro x w8 ⟨rfl, hb⟩; have s3 := kc ⟨B, I, none⟩ (.int .i64 G) hb (by first | exact s2 | exact s1 | exact a0); have hE := beyondD (w := w5) (by first | with_reducible assumption | with_reducible exact Below.drew (Below.refl _ _) | with_reducible exact Below.refl _ _ | with_reducible exact Below.drew hX | with_reducible exact Below.drew hY | with_reducible exact Below.drew hE) hb; clear hb))
            | fail
            all_goals go_wp2_with fail
            all_goals go_meet
            all_goals exact ⟨rfl, by assumption⟩
          case rest =>
            obtain ⟨rfl, hb6⟩ := hcut
            have B6 := hideD (B5.out.trans (hb6.mono L5.out))
            go_wp2_with fail
            go_roundw
            case rel => exact ⟨I + 1, by omega, by go_num, B6⟩
            case measure => simp [intOf]; omega
    · have O := hideD (O2.out g1 cap1 wr (fun j hj => kc _ _ BW.out (R3.out j hj)))
      have ZW := hideD (Z3.out.past BW.out)
      have BB := hideD (beyondD B3.out BW.out)
      clear KX KY EM PL GC VA O2 R3 HR3 Z3
      go_wp2_with fail
      refine O.out.mono ?_
      rintro x w5 ⟨hb5, y, ly, rfl, hy⟩
      have ZW5 := hideD (ZW.out.past hb5)
      have HY5 := hideD hy
      have B5 := hideD (beyondD BB.out hb5)
      clear O hb5 hy ZW BB
      go_wp2_with fail
      refine (live_any _).mono ?_
      rintro x w6 ⟨rfl, hb6⟩
      have E6 := hideD (equal_any y b N c c w6 (HY5.out.past hb6) (ZW5.out.past hb6))
      rw [EQ.out] at E6
      have B6 := hideD (beyondD B5.out hb6)
      clear hb6 HY5 ZW5 B5
      go_wp2_with fail
      refine E6.out.mono ?_
      rintro x w7 ⟨rfl, k, rfl⟩
      go_wp2_with fail
      go_ret
      exact ⟨rfl, below_drewN B6.out k⟩
end Go.Proofs.Ytfmfanbhlgcegaa
