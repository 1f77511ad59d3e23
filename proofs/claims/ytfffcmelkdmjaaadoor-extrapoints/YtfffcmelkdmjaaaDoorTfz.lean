/-
  The document's Gone: nothing is said of clocks.
-/
import Derived.Test.YtfffcmelkdmjaaaDoorTdz
import Derived.Test.YtfffcmelkdmjaaaDoorCaz
namespace Go.Proofs.YtfffcmelkdmjaaaDoor
open Go.RowKit
set_option linter.unusedVariables false
set_option maxRecDepth 100000
theorem place_inj {n i j a b : Nat} (hj : j ≤ n) (hb : b ≤ n) : i * (n + 1) + j = a * (n + 1) + b ↔ i = a ∧ j = b := by
  constructor
  · intro e
    have h1 := place_div (n := n) (i := i) hj
    have h2 := place_mod (n := n) (i := i) hj
    rw [e, place_div hb] at h1
    rw [e, place_mod hb] at h2
    exact ⟨h1.symm, h2.symm⟩
  · rintro ⟨rfl, rfl⟩; rfl
theorem fgR_at {n x : Nat} {c : Row} (hx : x ≤ n) : ∀ I, I ≤ n + 1 → ∀ i j, i ≤ n → j ≤ n → fgR n x c I (i * (n + 1) + j) = if i = x ∧ j < I ∧ ¬ j = x then 2147483647 else if j = x ∧ i < I ∧ ¬ i = x then c (i * (n + 1)) else c (i * (n + 1) + j)
  | 0, _, i, j, hi, hj => by rw [if_neg (by omega), if_neg (by omega)]; rfl
  | I + 1, hI, i, j, hi, hj => by
    have ih := fgR_at (c := c) hx I (by omega) i j hi hj
    show (if I = x then fgR n x c I else updR (updR (fgR n x c I) (x * (n + 1) + I) 2147483647) (I * (n + 1) + x) (c (I * (n + 1)))) (i * (n + 1) + j) = _
    by_cases ix : I = x
    · rw [if_pos ix, ih]
      subst ix
      by_cases a : i = I ∧ j < I ∧ ¬ j = I
      · rw [if_pos a, if_pos (by omega)]
      · rw [if_neg a]
        by_cases b : j = I ∧ i < I ∧ ¬ i = I
        · rw [if_pos b, if_neg (by omega), if_pos (by omega)]
        · rw [if_neg b, if_neg (by omega), if_neg (by omega)]
    · rw [if_neg ix]
      unfold updR
      by_cases e1 : i = I ∧ j = x
      · rw [if_pos ((place_inj hj hx).2 e1), if_neg (by omega), if_pos (by omega), e1.1]
      · rw [if_neg (fun e => e1 ((place_inj hj hx).1 e))]
        by_cases e2 : i = x ∧ j = I
        · rw [if_pos ((place_inj hj (by omega)).2 e2), if_pos (by omega)]
        · rw [if_neg (fun e => e2 ((place_inj hj (by omega)).1 e)), ih]
          by_cases a : i = x ∧ j < I ∧ ¬ j = x
          · rw [if_pos a, if_pos (by omega)]
          · rw [if_neg a]
            by_cases b : j = x ∧ i < I ∧ ¬ i = x
            · rw [if_pos b, if_neg (by omega), if_pos (by omega)]
            · rw [if_neg b, if_neg (by omega), if_neg (by omega)]
theorem narB_opn : narB opn = 2147483647 := by unfold narB; rw [if_pos rfl]
theorem fg_step {n x : Nat} {R : Row} {q : Mat} (hx : x ≤ n) (hR : ∀ i j, i ≤ n → j ≤ n → R (i * (n + 1) + j) = narB (q i j)) (one : q x x = 1) {i j : Nat} (hi : i ≤ n) (hj : j ≤ n) : fgR n x R (n + 1) (i * (n + 1) + j) = narB (frP x q i j) := by
  rw [fgR_at hx (n + 1) (Nat.le_refl _) i j hi hj]
  by_cases ix : i = x
  · subst ix
    rw [frP_x]
    by_cases jx : j = i
    · subst jx
      rw [if_neg (by omega), if_neg (by omega), if_pos rfl, hR j j hi hi, one]
    · rw [if_pos (by omega), if_neg jx, narB_opn]
  · rw [if_neg (by omega)]
    by_cases jx : j = x
    · subst jx
      rw [if_pos (by omega), frP_c _ ix]
      have := hR i 0 hi (by omega)
      rw [Nat.add_zero] at this
      exact this
    · rw [if_neg (by omega), frP_o _ ix jx, hR i j hi hj]
def fgS (n : Nat) (l : List Int) : Nat → Row → Row
  | 0, c => c
  | K + 1, c => fgR n (l.getD K 0).toNat (fgS n l K c) (n + 1)
theorem fgS_at {n m : Nat} {l : List Int} {p : Mat} {c : Row} (hm : m = (n + 1) * (n + 1)) (h : FullC n m p c) : ∀ K, hasA n l K = true → ∀ i j, i ≤ n → j ≤ n → fgS n l K c (i * (n + 1) + j) = narB (frS l K p i j)
  | 0, _, i, j, hi, hj => h.at hm hi hj
  | K + 1, ha, i, j, hi, hj => by
    have ha' : hasA n l K = true := by simp only [hasA, Bool.and_eq_true] at ha; exact ha.1
    have hx := hasA_at ha K (by omega)
    have F := (frS_full (l := l) hm h K ha').1
    exact fg_step (by omega) (fgS_at hm h K ha') (F.cl.one _ (by omega)) hi hj
theorem fgS_row {n m : Nat} {l : List Int} {p : Mat} {c c1 : Row} (hm : m = (n + 1) * (n + 1)) (h : FullC n m p c) (ha : hasA n l l.length = true) (h1 : FullC n m (frS l l.length p) c1) (k : Nat) (hk : k < m) : fgS n l l.length c k = c1 k := by
  have hj : k % (n + 1) ≤ n := by have := Nat.mod_lt k (show 0 < n + 1 by omega); omega
  have hi : k / (n + 1) ≤ n := by rw [hm] at hk; have := Nat.div_lt_of_lt_mul hk; omega
  have e : k / (n + 1) * (n + 1) + k % (n + 1) = k := by rw [Nat.mul_comm]; exact Nat.div_add_mod k (n + 1)
  have a := fgS_at (l := l) hm h l.length ha _ _ hi hj
  have b := h1.at hm hi hj
  rw [e] at a b
  rw [a, b]
theorem allRight_row {c : Row} {m : Nat} (h : ∀ k, rightB (c k) = true) : ∀ K : Nat, K ≤ m → allRight (listOf c m) K = true
  | 0, _ => rfl
  | K + 1, hK => by
    have hk : K < m := hK
    have ih := allRight_row h K (Nat.le_of_lt hk)
    show (allRight (listOf c m) K && rightB ((listOf c m).getD K 0)) = true
    rw [ih, listOf_get _ _ _ hk, h K]
    rfl
/-- The document's Of, of right cells: whatever zone they make. -/
theorem rof_cells {n m g cap : Nat} {c : Row} {w : World} (hn : n ≤ 8) (hm : m = (n + 1) * (n + 1)) (hr : ∀ k, rightB (c k) = true) (hc : ∀ k, k < m → w.cell? ⟨g, k, none⟩ = some (.int .i32 (c k))) :
    Calls Tryd.prog 77 #[.int .i64 n, .slice (some ⟨g, 0, none⟩) m cap] w fun e w' => RefOut w' n m e (zoneR n (drf n m (listOf c m))) ∧ Below w.heap.size w w' := by
  have hl : (listOf c m).length = (n + 1) * (n + 1) := by rw [listOf_len, hm]
  have h32 : ∀ k, -2147483648 ≤ c k ∧ c k ≤ 2147483647 := fun k => by
    have := hr k
    simp only [rightB, decide_eq_true_eq] at this
    omega
  have R := rof_main n g 0 cap (listOf c m) w hn hl (fun j hj => by rw [listOf_len] at hj; rw [Nat.zero_add, listOf_get _ _ _ hj]; exact hc j hj) (fun j hj => by rw [listOf_len] at hj; rw [listOf_get _ _ _ hj]; exact h32 j)
  rw [listOf_len] at R
  refine R.mono fun e w' ⟨hb, h⟩ => ⟨?_, hb⟩
  rcases h with ⟨h, -⟩ | ⟨-, h⟩
  · rw [allRight_row hr m (Nat.le_refl _)] at h; cases h
  · rw [of_same n (listOf c m) hl (fun j hj => by rw [← hm] at hj; rw [listOf_get _ _ _ hj]; exact (h32 j).2), listOf_len, ← hm] at h
    exact ⟨w.heap.size, h⟩
theorem rof_row {n m g cap : Nat} {c : Row} {w : World} (hn : n ≤ 8) (hm : m = (n + 1) * (n + 1)) (zc : ZC n m c) (hc : ∀ k, k < m → w.cell? ⟨g, k, none⟩ = some (.int .i32 (c k))) :
    Calls Tryd.prog 77 #[.int .i64 n, .slice (some ⟨g, 0, none⟩) m cap] w fun e w' => RefOut w' n m e (some c) ∧ Below w.heap.size w w' := by
  have := rof_cells (cap := cap) hn hm (zc_right hm zc) hc
  rw [zc_zone hn hm zc] at this
  exact this
theorem ref_form {w' : World} {n m : Nat} {e : Ending} {c : Row} (h : RefOut w' n m e (some c)) : ∃ b, e = .returned (.tuple #[.pointer (some ⟨b, 0, none⟩), .int .i64 0]) ∧ ∃ B, RZone w' B b n (listOf c m) := by
  obtain ⟨B, b, h1, h2⟩ := h
  exact ⟨b, h1, B, h2⟩
theorem rgone_nil (v : Value) (w : World) : Calls Tryd.prog 69 #[.pointer none, v] w fun e w' => e = errOf 1 ∧ w' = w := by
  go_enter Tryd.func69, Tryd.ntmps69
  go_wp2_with fail
  exact bodyPost_ret (v := .tuple #[.pointer none, .int .i64 1]) (by simp [results, Tryd.results69, go_sem]) rfl ⟨rfl, rfl⟩
/-- What the document's Gone tells. -/
def GoneOut (w' : World) (n m : Nat) (e : Ending) (l : List Int) (c1 : Row) : Prop := (hasA n l l.length = false ∧ e = errOf 12) ∨ (hasA n l l.length = true ∧ RefOut w' n m e (some c1))
set_option maxHeartbeats 8000000 in
theorem rgone_main (r n m B q cap : Nat) (ad : Option Addr) (c c1 : Row) (l : List Int) (w : World) (hn : n ≤ 8) (hm : m = (n + 1) * (n + 1)) (h : RZone w B r n (listOf c m)) (zc : ZC n m c) (hl : l.length = q) (hv : IntsAt w (.slice ad q cap) l) (hq : q ≤ 9223372036854775807)
    (z1 : hasA n l q = true → ZC n m c1) (h0 : hasA n l q = true → c 0 = 0 → c1 = c) (h1 : hasA n l q = true → c 0 = 1 → ∀ k, k < m → fgS n l q c k = c1 k) :
    Calls Tryd.prog 69 #[.pointer (some ⟨r, 0, none⟩), .slice ad q cap] w fun e w' => GoneOut w' n m e l c1 ∧ Below w.heap.size w w' := by
  have mp : 0 < m := by rw [hm]; exact Nat.mul_pos (by omega) (by omega)
  have m81 : m ≤ 81 := by rw [hm]; exact Nat.mul_le_mul (show n + 1 ≤ 9 by omega) (show n + 1 ≤ 9 by omega)
  have HD : Hid (∀ w', Below w.heap.size w w' → Calls Tryd.prog 82 #[.pointer (some ⟨r, 0, none⟩)] w' fun e w'' => e = .returned (.int .i64 n) ∧ w'' = w') := fun w' hb => rdim_any (h.past hb)
  have HE : Hid (∀ w', Below w.heap.size w w' → _) := fun w' hb => rempty_is (h.past hb) mp
  have HC : Hid (∀ wr, Below w.heap.size w wr → ∀ k, k < q → ∃ cb off, ad = some ⟨cb, off, none⟩ ∧ wr.cell? ⟨cb, off + k, none⟩ = some (.int .i64 (l.getD k 0))) := fun wr hb k hk => (hv.past hb).at hl k hk
  have HCe : Hid (∀ w', Below w.heap.size w w' → Calls Tryd.prog 66 #[.pointer (some ⟨r, 0, none⟩)] w' fun e w'' => (∃ g cap, e = .returned (.slice (some ⟨g, 0, none⟩) m cap) ∧ Hid (g < w''.heap.size) ∧ Hid (∀ k, k < m → w''.cell? ⟨g, k, none⟩ = some (.int .i32 (c k)))) ∧ Hid (Below w'.heap.size w' w'')) := fun w' hb => by
    obtain ⟨g0, cap0, r0, r1, r2, r3, r4⟩ := h.past hb
    rw [listOf_len] at r1
    refine (rcells_own r g0 n cap0 m (listOf c m) w' (listOf_len c m) m81 mp r1 r4).mono fun e w'' h' => ?_
    obtain ⟨⟨g2, cap2, rfl, hg2, hgl2, hrow2, -⟩, hb3⟩ := h'
    refine ⟨⟨g2, cap2, rfl, hgl2, fun k hk => ?_⟩, hb3⟩
    have := hrow2 k (by rw [listOf_len]; exact hk)
    rw [listOf_get _ _ _ hk, Nat.zero_add] at this
    exact this
  have HF : Hid (∀ (x g cap : Nat) (R : Row) (w' : World), x ≤ n → g < w'.heap.size → (∀ k, k < m → w'.cell? ⟨g, k, none⟩ = some (.int .i32 (R k))) → _) := fun x g cap R w' hx hg hR => forget_any n m x g cap R w' hn hm hx hR hg
  have HOf : Hid (∀ (g cap : Nat) (w' : World), hasA n l q = true → (∀ k, k < m → w'.cell? ⟨g, k, none⟩ = some (.int .i32 (c1 k))) → Calls Tryd.prog 77 #[.int .i64 n, .slice (some ⟨g, 0, none⟩) m cap] w' fun e w'' => (∃ b, e = .returned (.tuple #[.pointer (some ⟨b, 0, none⟩), .int .i64 0]) ∧ Hid (GoneOut w'' n m e l c1)) ∧ Hid (Below w'.heap.size w' w'')) := fun g cap w' ha hc => (rof_row hn hm (z1 ha) hc).mono fun e w'' ⟨h1, h2⟩ => by
    obtain ⟨b, e1, -⟩ := ref_form h1
    exact ⟨⟨b, e1, .inr ⟨by rw [hl]; exact ha, h1⟩⟩, h2⟩
  have HX : Hid (∀ w' e, hasA n l q = false → e = errOf 12 → GoneOut w' n m e l c1) := fun w' e h1 h2 => .inl ⟨by rw [hl]; exact h1, h2⟩
  have AT : Hid (hasA n l q = true → ∀ k, k < q → 1 ≤ l.getD k 0 ∧ l.getD k 0 ≤ n) := fun ha k hk => hasA_at ha k hk
  have H0 := hideD h0
  have H1 := hideD h1
  have h01 := zc01 hm zc
  have q1 : (q : Int) ≤ 9223372036854775807 := by omega
  clear h zc hv hl z1 h0 h1 hm
  go_enter Tryd.func69, Tryd.ntmps69
  go_wp2_with fail
  go_loopw [6] (fun s wr => ∃ (K : Nat), K ≤ q ∧ s = .int .i64 (K : Int) ∧ Hid (hasA n l K = true) ∧ Hid (Below w.heap.size w wr)) (fun s _ => q - (intOf s).toNat)
  case atStart => exact ⟨0, by omega, rfl, rfl, Below.refl _ _⟩
  case round =>
    obtain ⟨K, hK, rfl, hA, hB⟩ := hrel
    by_cases ck : K < q
    · have k0 : (0 : Int) ≤ (K : Int) := by omega
      have k1 : (K : Int) < (q : Int) := by omega
      obtain ⟨b, off, rfl, c0⟩ := HC.out wr hB.out K ck
      have st : Hid (hasA n l (K + 1) = clockB n (l.getD K 0)) := by show _ = _; simp [hasA, hA.out]
      have st2 : Hid (clockB n (l.getD K 0) = decide (1 ≤ l.getD K 0 ∧ l.getD K 0 ≤ n)) := rfl
      have HDK : Hid (∀ k, Calls Tryd.prog 82 #[.pointer (some ⟨r, 0, none⟩)] (wr.drewN k) fun e w'' => e = .returned (.int .i64 n) ∧ ∃ k', w'' = (wr.drewN k).drewN k') := fun k => (HD.out _ (below_drewN hB.out k)).mono fun e w'' ⟨h1, h2⟩ => ⟨h1, 0, h2⟩
      generalize l.getD K 0 = x at *
      clear HD HE HCe HF HOf AT H0 H1 h01 mp m81 HC
      by_cases x0 : x < 1
      · have st3 : Hid (hasA n l q = false) := hasA_false (k := K + 1) q (by omega) (by rw [st.out, st2.out]; exact decide_eq_false (by omega))
        have dx0 : decide (x < 1) = true := by simpa using x0
        clear st st2
        go_wp2_with fail
        go_quiet (fail)
        go_wp2_with fail
        exact bodyPost_ret (v := .tuple #[.pointer none, .int .i64 12]) (by simp [results, Tryd.results69, go_sem]) rfl ⟨HX.out _ _ st3.out rfl, below_drewN hB.out _⟩
      · have dx0 : decide (x < 1) = false := by simpa using x0
        by_cases x1 : (n : Int) < x
        · have st3 : Hid (hasA n l q = false) := hasA_false (k := K + 1) q (by omega) (by rw [st.out, st2.out]; exact decide_eq_false (by omega))
          have dx1 : decide ((n : Int) < x) = true := by simpa using x1
          clear st st2
          go_wp2_with fail
          go_quiet ((go_at_call 82; exact Calls.quiet_of (HDK.out _)))
          go_wp2_with fail
          exact bodyPost_ret (v := .tuple #[.pointer none, .int .i64 12]) (by simp [results, Tryd.results69, go_sem]) rfl ⟨HX.out _ _ st3.out rfl, below_drewN hB.out _⟩
        · have st3 : Hid (hasA n l (K + 1) = true) := by show _ = _; rw [st.out, st2.out]; exact decide_eq_true (by omega)
          have dx1 : decide ((n : Int) < x) = false := by simpa using x1
          clear st st2
          go_wp2_with fail
          go_quiet ((go_at_call 82; exact Calls.quiet_of (HDK.out _)))
          go_wp2_with fail
          go_roundw
          case rel => exact ⟨K + 1, by omega, by go_num, st3, below_drewN hB.out _⟩
          case measure => simp [intOf]; omega
    · have k1 : ¬ ((K : Int) < (q : Int)) := by omega
      obtain rfl : K = q := by omega
      obtain ⟨wb, hwb⟩ : ∃ wb, wb = wr := ⟨_, rfl⟩
      subst hwb
      have HCb := hideD (HCe.out _ hB.out)
      clear HCe
      go_wp2_with fail
      refine HCb.out.mono ?_
      rintro e w3 ⟨⟨g, cp, rfl, hg, hcell⟩, hb3⟩
      have B3 := hideD (beyondD hB.out hb3.out)
      clear HCb hb3 hB
      have F0 : Hid (∀ k, k < m → w3.cell? ⟨g, k, none⟩ = some (.int .i32 (fgS n l 0 c k))) := hcell.out
      clear hcell
      go_wp2_with fail
      go_loopw [7, 8] (fun v s w4 => ∃ (J g cp : Nat), J ≤ K ∧ v = .slice (some ⟨g, 0, none⟩) m cp ∧ s = .int .i64 (J : Int) ∧ (c 0 = 0 → J = 0) ∧ Hid (g < w4.heap.size) ∧ Hid (∀ k, k < m → w4.cell? ⟨g, k, none⟩ = some (.int .i32 (fgS n l J c k))) ∧ Hid (Below w.heap.size w w4)) (fun _ s _ => K - (intOf s).toNat)
      case atStart => exact ⟨0, g, cp, by omega, rfl, rfl, fun _ => rfl, hg, F0, B3⟩
      case round =>
        obtain ⟨J, g', cp', hJ, rfl, rfl, hz, hg', hF, hB4⟩ := hrel
        clear hg F0 B3
        have HEJ := hideD (HE.out _ hB4.out)
        have fin : Hid (c 0 = 0 ∨ J = K → ∀ k, k < m → wr.cell? ⟨g', k, none⟩ = some (.int .i32 (c1 k))) := fun hor k hk => by
          rw [hF.out k hk]
          rcases h01 with e | e
          · rw [hz e, H0.out hA.out e]; rfl
          · rcases hor with e' | e'
            · omega
            · rw [e', H1.out hA.out e k hk]
        by_cases cj : J < K
        · have k0 : (0 : Int) ≤ (J : Int) := by omega
          have k1 : (J : Int) < (K : Int) := by omega
          rcases h01 with e | e
          · rw [e] at HEJ
            have HDJ := hideD (HD.out _ hB4.out)
            have HO := hideD (HOf.out g' cp' wr hA.out (fin.out (.inl e)))
            clear HE HF HOf H0 H1 fin hF HC AT HD
            go_wp2_with fail
            refine HEJ.out.mono ?_
            rintro e' w5 ⟨rfl, rfl⟩
            go_wp2_with fail
            refine HDJ.out.mono ?_
            rintro e' w5 ⟨rfl, rfl⟩
            go_wp2_with fail
            refine HO.out.mono ?_
            rintro e' w6 ⟨⟨b', rfl, ho⟩, hb6⟩
            go_wp2_with fail
            exact bodyPost_ret (v := .tuple #[.pointer (some ⟨b', 0, none⟩), .int .i64 0]) (by simp [results, Tryd.results69, go_sem]) rfl ⟨ho.out, beyondD hB4.out hb6.out⟩
          · rw [e] at HEJ
            obtain ⟨cb, off, rfl, c0⟩ := HC.out wr hB4.out J cj
            have at1 := AT.out hA.out J cj
            obtain ⟨x, hx⟩ := Int.eq_ofNat_of_zero_le (show 0 ≤ l.getD J 0 by omega)
            have nx : Hid (fgS n l (J + 1) c = fgR n x (fgS n l J c) (n + 1)) := by show _ = _; rw [fgS, hx]; rfl
            rw [hx] at c0 at1
            have x1 : x ≤ n := by omega
            have B5 := Below.refl wr.heap.size wr
            have HDr : Hid (∀ w', Below wr.heap.size wr w' → Calls Tryd.prog 82 #[.pointer (some ⟨r, 0, none⟩)] w' fun e w'' => e = .returned (.int .i64 n) ∧ w'' = w') := fun w' hb => HD.out w' (beyondD hB4.out hb)
            have HFr : Hid (∀ w', Below wr.heap.size wr w' → Calls Tryd.prog 129 #[.int .i64 n, .slice (some ⟨g', 0, none⟩) m cp', .int .i64 x] w' fun e w'' => (∃ g cap', e = .returned (.slice (some ⟨g, 0, none⟩) m cap') ∧ Hid (g < w''.heap.size) ∧ Hid (∀ k, k < m → w''.cell? ⟨g, k, none⟩ = some (.int .i32 (fgS n l (J + 1) c k)))) ∧ Hid (Below w'.heap.size w' w'')) := fun w' hb => (HF.out x g' cp' _ w' x1 (Nat.lt_of_lt_of_le hg'.out hb.size) (fun k hk => kc _ _ hb (hF.out k hk))).mono fun e w'' ⟨⟨g2, cap2, e2, h1, h2, h3, h4⟩, h5⟩ => ⟨⟨g2, cap2, e2, h2, fun k hk => by rw [nx.out]; exact h3.out k hk⟩, h5⟩
            have c0' : wr.drew.cell? ⟨cb, off + J, none⟩ = some (.int .i64 (x : Int)) := c0
            clear HE HF HOf H0 H1 fin hF HC AT HD hx at1 nx hz hg'
            go_wp2_with fail
            refine HEJ.out.mono ?_
            rintro e' w5 ⟨rfl, rfl⟩
            clear HEJ
            go_upto_region 12 with (fail)
            go_region_held3 (fun w6 => w6.cell? ⟨cb, off + J, none⟩ = some (.int .i64 (x : Int)))
              (first | with_reducible assumption | go_keep)
              (first
                | (go_at_call 82; refine (HDr.out _ (by first | assumption | (apply Below.drew; assumption))).mono ?_; rintro e' w6 ⟨rfl, rfl⟩)
                | (go_at_call 129; refine (HFr.out _ (by first | assumption | (apply Below.drew; assumption))).mono ?_; rintro e' w6 ⟨⟨g2, cp2, rfl, hg2, hF2⟩, hb6⟩; have s9 := kc ⟨cb, off + J, none⟩ (.int .i64 (x : Int)) hb6.out (by first | assumption | simp [go_sem, *]); have s1 := beyondD (w := w5) (by first | assumption | (apply Below.drew; assumption)) hb6.out))
            all_goals
              have B6 := hideD (beyondD hB4.out s1)
              clear s9 s1 HDr HFr c0 c0' B5 hB4 hb6
              go_wp2_with fail
              go_roundw
              case rel => exact ⟨J + 1, g2, cp2, by omega, rfl, by go_num, (fun h => by omega), hg2, hF2, B6⟩
              case measure => simp [intOf]; omega
        · have k1 : ¬ ((J : Int) < (K : Int)) := by omega
          have eJ : J = K := by omega
          have HDJ := hideD (HD.out _ hB4.out)
          have HO := hideD (HOf.out g' cp' wr hA.out (fin.out (.inr eJ)))
          clear HE HF HOf H0 H1 fin hF HC AT HD HEJ
          go_wp2_with fail
          refine HDJ.out.mono ?_
          rintro e' w5 ⟨rfl, rfl⟩
          go_wp2_with fail
          refine HO.out.mono ?_
          rintro e' w6 ⟨⟨b', rfl, ho⟩, hb6⟩
          go_wp2_with fail
          exact bodyPost_ret (v := .tuple #[.pointer (some ⟨b', 0, none⟩), .int .i64 0]) (by simp [results, Tryd.results69, go_sem]) rfl ⟨ho.out, beyondD hB4.out hb6.out⟩
end Go.Proofs.YtfffcmelkdmjaaaDoor
