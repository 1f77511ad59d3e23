/-
  The document's LU.
-/
import Derived.Test.YtfffcmelkdmjaaaDoorThz
import Derived.Deep.RegionWith
namespace Go.Proofs.YtfffcmelkdmjaaaDoor
open Go.RowKit
set_option linter.unusedVariables false
set_option maxRecDepth 100000
/-- What LU makes of a zone, step by step. -/
theorem lu_parts {n m : Nat} {lo up : List Int} {c : Row} (hn : n ≤ 8) (hm : m = (n + 1) * (n + 1)) (zc : ZC n m c) (h0 : mayE n lo = 0) (h1 : mayE n up = 0) :
    ∃ c1 ca, ZC n m c1 ∧ ZC n m ca ∧ luO n m lo up c1 = some ca ∧ RightM n (freeL n (silL lo up n) (silL lo up n).length (oR n c m)) ∧ zoneR n (drf n m (rowsL n (freeL n (silL lo up n) (silL lo up n).length (oR n c m)) (n + 1))) = some c1 ∧ (c 0 = 0 → c1 = c ∧ ca = c) ∧ (c 0 = 1 → c1 0 = 1 ∧ ∀ k, k < m → fgS n (silL lo up n) (silL lo up n).length c k = c1 k) := by
  obtain ⟨l1, k1⟩ := mayE_zero h0
  obtain ⟨l2, k2⟩ := mayE_zero h1
  obtain ⟨c1, z1, i1, R1, f1, p1, q1⟩ := free_rowL (l := silL lo up n) hn hm zc sil_has
  have key : ∃ ca, luO n m lo up c1 = some ca ∧ ZC n m ca ∧ (c 0 = 0 → c1 = c ∧ ca = c) ∧ (c 0 = 1 → c1 0 = 1 ∧ ∀ k, k < m → fgS n (silL lo up n) (silL lo up n).length c k = c1 k) := by
    rcases zc with rfl | ⟨p, hp⟩
    · have := q1 rfl
      subst this
      exact ⟨fun _ => 0, by unfold luO; rw [if_pos (by decide)], .inl rfl, fun _ => ⟨rfl, rfl⟩, fun h => by cases h⟩
    · obtain ⟨e1, F1, L1⟩ := p1 p hp
      obtain ⟨q, Fq, eq, Lq, Uq, Gq⟩ := lu_math hn hm F1 k1 k2
      exact ⟨_, eq, .inr ⟨_, Fq⟩, fun h => by have := hp.zero hm; omega, fun _ => ⟨F1.zero hm, fun k hk => fgS_row hm hp sil_has F1 k hk⟩⟩
  obtain ⟨ca, e, k3, k4, k5⟩ := key
  exact ⟨c1, ca, z1, k3, e, R1, f1, k4, k5⟩
/-- The first K cells widened. -/
def wdK (n : Nat) (lo up : List Int) (c : Row) (K : Nat) : Row := fun k => if k < K then wdR n lo up c k else c k
theorem wdK_zero (n : Nat) (lo up : List Int) (c : Row) : wdK n lo up c 0 = c := by funext k; unfold wdK; rw [if_neg (by omega)]
theorem wdK_all (n : Nat) (lo up : List Int) (c : Row) (m k : Nat) (hk : k < m) : wdK n lo up c m k = wdR n lo up c k := by unfold wdK; rw [if_pos hk]
theorem wdK_diag {n i : Nat} {lo up : List Int} {c : Row} (hi : i ≤ n) : wdK n lo up c (i * (n + 1) + i + 1) = wdK n lo up c (i * (n + 1) + i) := by
  funext k
  unfold wdK
  by_cases e : k = i * (n + 1) + i
  · subst e
    rw [if_pos (by omega), if_neg (by omega)]
    unfold wdR
    rw [place_div hi, place_mod hi, if_pos rfl]
  · by_cases l : k < i * (n + 1) + i
    · rw [if_pos l, if_pos (by omega)]
    · rw [if_neg l, if_neg (by omega)]
theorem wdK_next {n i j : Nat} {lo up : List Int} {c : Row} (hj : j ≤ n) (ij : ¬ i = j) (k : Nat) : wdK n lo up c (i * (n + 1) + j + 1) k = updR (wdK n lo up c (i * (n + 1) + j)) (i * (n + 1) + j) (wdV i (cstN lo i) (cstN up j) (c (i * (n + 1) + j))) k := by
  unfold updR wdK
  by_cases e : k = i * (n + 1) + j
  · subst e
    rw [if_pos (by omega), if_pos rfl]
    unfold wdR
    rw [place_div hj, place_mod hj, if_neg ij]
  · rw [if_neg e]
    by_cases l : k < i * (n + 1) + j
    · rw [if_pos l, if_pos (by omega)]
    · rw [if_neg l, if_neg (by omega)]
theorem row0_le {n m j : Nat} {c : Row} (hm : m = (n + 1) * (n + 1)) (zc : ZC n m c) (hj : j ≤ n) : c (0 * (n + 1) + j) ≤ 1 := by
  rcases zc with rfl | ⟨p, hp⟩
  · show (0 : Int) ≤ 1
    omega
  · rw [hp.at hm (by omega) hj]
    have := hp.low j hj
    rcases narOk_cases (hp.ok hm (show 0 ≤ n by omega) hj) with ⟨k0, k⟩ | ⟨-, k, -, -⟩
    · have := opn_val; omega
    · rw [k]; exact this
theorem rlu_nil (v u : Value) (w : World) : Calls Tryd.prog 60 #[.pointer none, v, u] w fun e w' => e = errOf 1 ∧ w' = w := by
  go_enter Tryd.func60, Tryd.ntmps60
  go_wp2_with fail
  exact bodyPost_ret (v := .tuple #[.pointer none, .int .i64 1]) (by simp [results, Tryd.results60, go_sem]) rfl ⟨rfl, rfl⟩
theorem rlu_err1 {r n m B q cap : Nat} {ad : Option Addr} {u : Value} {c : Row} {lo : List Int} {w : World} (h : RZone w B r n (listOf c m)) (hl : lo.length = q) (hv : IntsAt w (.slice ad q cap) lo) (hq : q ≤ 9223372036854775807) (he : ¬ mayE n lo = 0) :
    Calls Tryd.prog 60 #[.pointer (some ⟨r, 0, none⟩), .slice ad q cap, u] w fun e w' => e = errOf (mayE n lo) ∧ w' = w := by
  have HD := hideD (rdim_any h)
  have HM := hideD (rmay_any n q cap ad lo w hl hv hq)
  have he' : (mayE n lo != 0) = true := by simpa using he
  generalize mayE n lo = E at *
  clear h hv
  go_enter Tryd.func60, Tryd.ntmps60
  go_wp2_with fail
  refine HD.out.mono ?_
  rintro e w1 ⟨rfl, rfl⟩
  go_wp2_with fail
  refine HM.out.mono ?_
  rintro e w1 ⟨rfl, rfl⟩
  go_wp2_with fail
  exact bodyPost_ret (v := .tuple #[.pointer none, .int .i64 E]) (by simp [results, Tryd.results60, go_sem]) rfl ⟨rfl, rfl⟩
theorem rlu_err2 {r n m B q cap q' cap' : Nat} {ad ad' : Option Addr} {c : Row} {lo up : List Int} {w : World} (h : RZone w B r n (listOf c m)) (hl : lo.length = q) (hv : IntsAt w (.slice ad q cap) lo) (hq : q ≤ 9223372036854775807) (hl' : up.length = q') (hv' : IntsAt w (.slice ad' q' cap') up) (hq' : q' ≤ 9223372036854775807) (h0 : mayE n lo = 0) (he : ¬ mayE n up = 0) :
    Calls Tryd.prog 60 #[.pointer (some ⟨r, 0, none⟩), .slice ad q cap, .slice ad' q' cap'] w fun e w' => e = errOf (mayE n up) ∧ w' = w := by
  have HD := hideD (rdim_any h)
  have HM := rmay_any n q cap ad lo w hl hv hq
  rw [h0] at HM
  have HM := hideD HM
  have HM' := hideD (rmay_any n q' cap' ad' up w hl' hv' hq')
  have he' : (mayE n up != 0) = true := by simpa using he
  generalize mayE n up = E at *
  clear h hv hv'
  go_enter Tryd.func60, Tryd.ntmps60
  go_wp2_with fail
  refine HD.out.mono ?_
  rintro e w1 ⟨rfl, rfl⟩
  go_wp2_with fail
  refine HM.out.mono ?_
  rintro e w1 ⟨rfl, rfl⟩
  go_wp2_with fail
  refine HM'.out.mono ?_
  rintro e w1 ⟨rfl, rfl⟩
  go_wp2_with fail
  exact bodyPost_ret (v := .tuple #[.pointer none, .int .i64 E]) (by simp [results, Tryd.results60, go_sem]) rfl ⟨rfl, rfl⟩
set_option maxHeartbeats 16000000 in
theorem rlu_main {r n m B cap cap' : Nat} {ad ad' : Option Addr} {c c1 ca : Row} {lo up : List Int} {w : World} (hn : n ≤ 8) (hm : m = (n + 1) * (n + 1)) (h : RZone w B r n (listOf c m)) (zc : ZC n m c) (hl : lo.length = n) (hv : IntsAt w (.slice ad n cap) lo) (hl' : up.length = n) (hv' : IntsAt w (.slice ad' n cap') up) (h0 : mayE n lo = 0) (h1 : mayE n up = 0)
    (z1 : ZC n m c1) (hL : luO n m lo up c1 = some ca) (e0 : c 0 = 0 → c1 = c ∧ ca = c) (e1 : c 0 = 1 → c1 0 = 1 ∧ ∀ k, k < m → fgS n (silL lo up n) (silL lo up n).length c k = c1 k) :
    Calls Tryd.prog 60 #[.pointer (some ⟨r, 0, none⟩), .slice ad n cap, .slice ad' n cap'] w fun e w' => RefOut w' n m e (some ca) ∧ Below w.heap.size w w' := by
  obtain ⟨-, k1⟩ := mayE_zero h0
  obtain ⟨-, k2⟩ := mayE_zero h1
  have mp : 0 < m := by rw [hm]; exact Nat.mul_pos (by omega) (by omega)
  have m81 : m ≤ 81 := by rw [hm]; exact Nat.mul_le_mul (show n + 1 ≤ 9 by omega) (show n + 1 ≤ 9 by omega)
  have HD := hideD (rdim_any h)
  have HM := rmay_any n n cap ad lo w hl hv (by omega)
  rw [h0] at HM
  have HM := hideD HM
  have HM' := rmay_any n n cap' ad' up w hl' hv' (by omega)
  rw [h1] at HM'
  have HM' := hideD HM'
  have HE := hideD (rempty_is h mp)
  rcases zc01 hm zc with c0 | c0
  · obtain ⟨-, ea⟩ := e0 c0
    have FIN : Hid (∀ e, e = .returned (.tuple #[.pointer (some ⟨r, 0, none⟩), .int .i64 0]) → RefOut w n m e (some ca)) := fun e he => ⟨B, r, he, by rw [ea]; exact h⟩
    rw [c0] at HE
    clear h hv hv' e0 e1 hL z1 zc k1 k2
    go_enter Tryd.func60, Tryd.ntmps60
    go_wp2_with fail
    refine HD.out.mono ?_
    rintro e w1 ⟨rfl, rfl⟩
    go_wp2_with fail
    refine HM.out.mono ?_
    rintro e w1 ⟨rfl, rfl⟩
    go_wp2_with fail
    refine HM'.out.mono ?_
    rintro e w1 ⟨rfl, rfl⟩
    go_wp2_with fail
    refine HE.out.mono ?_
    rintro e w1 ⟨rfl, rfl⟩
    go_wp2_with fail
    exact bodyPost_ret (v := .tuple #[.pointer (some ⟨r, 0, none⟩), .int .i64 0]) (by simp [results, Tryd.results60, go_sem]) rfl ⟨FIN.out _ rfl, Below.refl _ _⟩
  · obtain ⟨d1, fg⟩ := e1 c0
    rw [c0] at HE
    have HZ : zoneR n (drf n m (listOf (wdR n lo up c1) m)) = some ca := by unfold luO at hL; rw [if_neg (by omega)] at hL; exact hL
    have HC : Hid (∀ wr, Below w.heap.size w wr → ∀ k, k < n → ∃ cb off, ad = some ⟨cb, off, none⟩ ∧ wr.cell? ⟨cb, off + k, none⟩ = some (.int .i64 (lo.getD k 0))) := fun wr hb k hk => (hv.past hb).at hl k hk
    have HC' : Hid (∀ wr, Below w.heap.size w wr → ∀ k, k < n → ∃ cb off, ad' = some ⟨cb, off, none⟩ ∧ wr.cell? ⟨cb, off + k, none⟩ = some (.int .i64 (up.getD k 0))) := fun wr hb k hk => (hv'.past hb).at hl' k hk
    have NX : Hid (∀ K, K < n → silL lo up (K + 1) = if lo.getD K 0 < 0 ∧ up.getD K 0 < 0 then silL lo up K ++ [(K : Int) + 1] else silL lo up K) := fun K hK => by
      have a := cstA_at k1 K (by omega)
      have b := cstA_at k2 K (by omega)
      show (if lo.getD K 0 = -1 ∧ up.getD K 0 = -1 then _ else _) = _
      by_cases e : lo.getD K 0 = -1 ∧ up.getD K 0 = -1
      · rw [if_pos e, if_pos (by omega)]
      · rw [if_neg e, if_neg (by omega)]
    have SL := hideD (silL_len lo up)
    have HG : Hid (∀ w' v, Below w.heap.size w w' → IntsAt w' v (silL lo up n) → Calls Tryd.prog 69 #[.pointer (some ⟨r, 0, none⟩), v] w' fun e w'' => (∃ b, e = .returned (.tuple #[.pointer (some ⟨b, 0, none⟩), .int .i64 0]) ∧ Hid (∃ B, RZone w'' B b n (listOf c1 m))) ∧ Hid (Below w'.heap.size w' w'')) := fun w' v hb hi => by
      obtain ⟨a, cc, rfl⟩ := hi.form
      refine (rgone_main r n m B _ cc a c c1 (silL lo up n) w' hn hm (h.past hb) zc rfl hi (by have := silL_len lo up n; omega) (fun _ => z1) (fun _ e => by omega) (fun _ _ => fg)).mono fun e w'' ⟨h1, h2⟩ => ?_
      rcases h1 with ⟨h1, -⟩ | ⟨-, h1⟩
      · rw [sil_has] at h1; cases h1
      · obtain ⟨b, e1, e2⟩ := ref_form h1
        exact ⟨⟨b, e1, e2⟩, h2⟩
    have HCe : Hid (∀ b w', (∃ B, RZone w' B b n (listOf c1 m)) → Calls Tryd.prog 66 #[.pointer (some ⟨b, 0, none⟩)] w' fun e w'' => (∃ g cap, e = .returned (.slice (some ⟨g, 0, none⟩) m cap) ∧ w'.heap.size ≤ g ∧ Hid (g < w''.heap.size) ∧ Hid (∀ k, k < m → w''.cell? ⟨g, k, none⟩ = some (.int .i32 (c1 k))) ∧ Hid (∀ j, w''.frozen? ⟨g, j, none⟩ = false)) ∧ Hid (Below w'.heap.size w' w'')) := fun b w' hR => by
      obtain ⟨B', g0, cap0, r0, r1, r2, r3, r4⟩ := hR
      rw [listOf_len] at r1
      refine (rcells_own b g0 n cap0 m (listOf c1 m) w' (listOf_len c1 m) m81 mp r1 r4).mono fun e w'' h' => ?_
      obtain ⟨⟨g2, cap2, rfl, hg2, hgl2, hrow2, hfr⟩, hb3⟩ := h'
      refine ⟨⟨g2, cap2, rfl, hg2, hgl2, fun k hk => ?_, hfr⟩, hb3⟩
      have := hrow2 k (by rw [listOf_len]; exact hk)
      rw [listOf_get _ _ _ hk, Nat.zero_add] at this
      exact this
    have HOf : Hid (∀ g cap w', (∀ k, k < m → w'.cell? ⟨g, k, none⟩ = some (.int .i32 (wdR n lo up c1 k))) → Calls Tryd.prog 77 #[.int .i64 n, .slice (some ⟨g, 0, none⟩) m cap] w' fun e w'' => (∃ b, e = .returned (.tuple #[.pointer (some ⟨b, 0, none⟩), .int .i64 0]) ∧ Hid (RefOut w'' n m e (some ca))) ∧ Hid (Below w'.heap.size w' w'')) := fun g cap w' hc => by
      have := rof_cells (cap := cap) hn hm (wdR_right k1 k2 (zc_right hm z1)) hc
      rw [HZ] at this
      exact this.mono fun e w'' ⟨h1, h2⟩ => by
        obtain ⟨b, e1, -⟩ := ref_form h1
        exact ⟨⟨b, e1, h1⟩, h2⟩
    have HA : Hid (∀ i w', i ≤ n → Below w.heap.size w w' → Calls Tryd.prog 127 #[.slice ad n cap, .int .i64 (i : Int)] w' fun e w'' => e = .returned (.int .i64 (cstN lo i)) ∧ w'' = w') := fun i w' hi hb => rconst_any i n cap ad lo w' hl (hv.past hb) hi (by omega)
    have HA' : Hid (∀ i w', i ≤ n → Below w.heap.size w w' → Calls Tryd.prog 127 #[.slice ad' n cap', .int .i64 (i : Int)] w' fun e w'' => e = .returned (.int .i64 (cstN up i)) ∧ w'' = w') := fun i w' hi hb => rconst_any i n cap' ad' up w' hl' (hv'.past hb) hi (by omega)
    have HW : Hid (∀ i j w', i ≤ n → j ≤ n → Calls Tryd.prog 126 #[.int .i32 (c1 (i * (n + 1) + j)), .int .i64 (i : Int), .int .i64 (cstN lo i), .int .i64 (cstN up j)] w' fun e w'' => e = .returned (.int .i32 (wdV i (cstN lo i) (cstN up j) (c1 (i * (n + 1) + j)))) ∧ w'' = w') := fun i j w' hi hj => by
      have b := zc_32 hm z1 (i * (n + 1) + j)
      have x := cstN_bd k1 i
      have y := cstN_bd k2 j
      have := rwide_any i (c1 (i * (n + 1) + j)) (cstN lo i) (cstN up j) w' (by omega) b.1 b.2 x.1 x.2 y.1 y.2
      rw [wdD_same (fun e => by subst e; exact row0_le hm z1 hj) y.1] at this
      exact this
    have HPl : Hid (∀ i j, i ≤ n → j ≤ n → i * (n + 1) + j < m) := fun i j hi hj => by rw [hm]; exact pos_lt hi hj
    have HEnd : Hid ((n + 1) * (n + 1) = m) := hm.symm
    have HMul : Hid (∀ i : Nat, (i : Int) * ((n : Int) + 1) = ((i * (n + 1) : Nat) : Int)) := fun i => by rw [Int.natCast_mul]; rfl
    have KN : Hid (∀ i j k, j ≤ n → ¬ i = j → wdK n lo up c1 (i * (n + 1) + j + 1) k = updR (wdK n lo up c1 (i * (n + 1) + j)) (i * (n + 1) + j) (wdV i (cstN lo i) (cstN up j) (c1 (i * (n + 1) + j))) k) := fun i j k hj ij => wdK_next hj ij k
    have KD : Hid (∀ i, i ≤ n → wdK n lo up c1 (i * (n + 1) + i + 1) = wdK n lo up c1 (i * (n + 1) + i)) := fun i hi => wdK_diag hi
    have KC : Hid (∀ P, wdK n lo up c1 P P = c1 P) := fun P => by unfold wdK; rw [if_neg (by omega)]
    have KZ := hideD (wdK_zero n lo up c1)
    have KA := hideD (fun k hk => wdK_all n lo up c1 m k hk)
    obtain ⟨i0, hi0, hz0, hz1, hz2⟩ := info_parts info_int
    clear h hv hv' e0 e1 hL z1 zc k1 k2 HZ fg d1 hm mp
    go_enter Tryd.func60, Tryd.ntmps60
    go_wp2_with fail
    refine HD.out.mono ?_
    rintro e w1 ⟨rfl, rfl⟩
    go_wp2_with fail
    refine HM.out.mono ?_
    rintro e w1 ⟨rfl, rfl⟩
    go_wp2_with fail
    refine HM'.out.mono ?_
    rintro e w1 ⟨rfl, rfl⟩
    go_wp2_with fail
    refine HE.out.mono ?_
    rintro e w1 ⟨rfl, rfl⟩
    clear HD HM HM' HE
    go_wp2_with fail
    go_loopw [11, 12] (fun u s wr => ∃ (I J : Nat), I = J + 1 ∧ J ≤ n ∧ s = .int .i64 (I : Int) ∧ Hid (wr.ownsRow w1.heap.size 3 1 u (silL lo up J).length ((silL lo up J).map (Value.int .i64))) ∧ Hid (Below w1.heap.size w1 wr)) (fun _ s _ => n + 1 - (intOf s).toNat)
    case atStart => exact ⟨1, 0, rfl, by omega, rfl, World.ownsRow_nil _ _ _ _, Below.refl _ _⟩
    case round =>
      obtain ⟨I, J, hIJ, hJ, rfl, hown, hB⟩ := hrel
      by_cases cj : J < n
      · have j0 : (0 : Int) ≤ (J : Int) := by omega
        have j1 : (J : Int) < (n : Int) := by omega
        have i1 : (I : Int) ≤ (n : Int) := by omega
        have ij : (I : Int) - 1 = (J : Int) := by omega
        have ji : (J : Int) + 1 = (I : Int) := by omega
        have HIJ := hideD hIJ
        obtain ⟨cb, off, rfl, q1⟩ := HC.out wr hB.out J cj
        obtain ⟨cb', off', rfl, q2⟩ := HC'.out wr hB.out J cj
        have nx := NX.out J cj
        rw [ji] at nx
        have nx := hideD nx
        have sl := SL.out J
        have hsz := hB.out.size
        have HN := hideD (one_int wr (I : Int))
        generalize silL lo up J = T at *
        generalize lo.getD J 0 = x at *
        generalize up.getD J 0 = y at *
        clear HG HCe HOf HA HA' HW HPl HEnd HMul KN KD KC KZ KA NX SL HC HC' ji
        by_cases cx : x < 0
        · by_cases cy : y < 0
          · rw [if_pos ⟨cx, cy⟩] at nx
            go_upto_region 17 with (fail)
            clear ij q1 q2 hIJ j0 j1 cx cy
            go_wp2_with (at_builtin; refine wpList_append_own _ rfl _ _ 74 rfl w1.heap.size 3 i0 (.int .i64 0) 1 8 Tryd.underlying74 hi0 hz0 hz1 hz2 rfl (by decide) _ T.length (T.map (Value.int .i64)) rfl (hown.out.alloc _) ⟨wr.heap.size, 0, none⟩ 1 1 [.int .i64 (I : Int)] rfl rfl HN.out (fun u hu => by simp at hu; subst hu; rfl) (by unfold maxLen; omega) (by omega) (by simp; omega) ?_; intro v' w5 hown' hgrow hnil)
            have hb5 : Below w1.heap.size w1 w5 := (hB.out.alloc hsz _).grown hgrow (by simp; omega) (by intro q hq; exact (hown.out.lt q hq).1)
            have O6 : Hid (w5.ownsRow w1.heap.size 3 1 v' (silL lo up (J + 1)).length ((silL lo up (J + 1)).map (Value.int .i64))) := by
              show World.ownsRow _ _ _ _ _ _ _
              rw [nx.out, List.map_append, List.length_append]
              exact hown'
            have B6 := hideD hb5
            clear hown' hgrow hnil hb5 hown hB HN nx
            have := HIJ.out; exact ⟨⟨I + 1, J + 1, by omega, by omega, by go_num, O6, B6⟩, by simp [intOf]; omega⟩
          · rw [if_neg (fun h => cy h.2)] at nx
            have o6 := hown.out
            rw [← nx.out] at o6
            have O6 := hideD o6
            clear o6 hown nx HN
            go_wp2_with fail
            go_roundw
            case rel => exact ⟨I + 1, J + 1, by omega, by omega, by go_num, O6, hB⟩
            case measure => simp [intOf]; omega
        · rw [if_neg (fun h => cx h.1)] at nx
          have o6 := hown.out
          rw [← nx.out] at o6
          have O6 := hideD o6
          clear o6 hown nx HN
          go_wp2_with fail
          go_roundw
          case rel => exact ⟨I + 1, J + 1, by omega, by omega, by go_num, O6, hB⟩
          case measure => simp [intOf]; omega
      · have i1 : ¬ ((I : Int) ≤ (n : Int)) := by omega
        obtain rfl : J = n := by omega
        obtain ⟨x, kk, cc, e, hI, -⟩ := own_ints (l := silL lo up J) (base := w1.heap.size) hown.out
        subst e
        have HGo := hideD (HG.out wr _ hB.out hI)
        clear hI hown HG NX SL HC HC'
        go_wp2_with fail
        refine HGo.out.mono ?_
        rintro e w3 ⟨⟨b, rfl, hR⟩, hb3⟩
        have B3 := hideD (beyondD hB.out hb3.out)
        have HCb := hideD (HCe.out b w3 hR.out)
        clear HGo hR hb3 hB HCe
        go_wp2_with fail
        refine HCb.out.mono ?_
        rintro e w4 ⟨⟨g, cp, rfl, gg, hg, hF, hfr⟩, hb4⟩
        have B4 := hideD (beyondD B3.out hb4.out)
        have g1 : w1.heap.size ≤ g := Nat.le_trans B3.out.size gg
        have F4 : Hid (∀ k, k < m → w4.cell? ⟨g, k, none⟩ = some (.int .i32 (wdK J lo up c1 0 k))) := fun k hk => by rw [KZ.out]; exact hF.out k hk
        clear HCb hb4 B3 hF KZ gg
        go_wp2_with fail
        go_loopw [14] (fun s wr => ∃ (i : Nat), i ≤ J + 1 ∧ s = .int .i64 (i : Int) ∧ Hid (∀ k, k < m → wr.cell? ⟨g, k, none⟩ = some (.int .i32 (wdK J lo up c1 (i * (J + 1)) k))) ∧ Hid (∀ j, wr.frozen? ⟨g, j, none⟩ = false) ∧ Hid (g < wr.heap.size) ∧ Hid (Below w1.heap.size w1 wr)) (fun s _ => J + 1 - (intOf s).toNat)
        case atStart => exact ⟨0, by omega, rfl, by rw [Nat.zero_mul]; exact F4, hfr, hg, B4⟩
        case round =>
          obtain ⟨i, hi, rfl, hF, hfr', hg', hB5⟩ := hrel
          clear F4 hfr hg B4
          by_cases ci : i ≤ J
          · have ci1 : (i : Int) ≤ (J : Int) := by omega
            have F5 : Hid (∀ k, k < m → wr.cell? ⟨g, k, none⟩ = some (.int .i32 (wdK J lo up c1 (i * (J + 1) + 0) k))) := hF.out
            clear hF
            go_wp2_with fail
            go_loopw [15] (fun s wr => ∃ (j : Nat), j ≤ J + 1 ∧ s = .int .i64 (j : Int) ∧ Hid (∀ k, k < m → wr.cell? ⟨g, k, none⟩ = some (.int .i32 (wdK J lo up c1 (i * (J + 1) + j) k))) ∧ Hid (∀ j, wr.frozen? ⟨g, j, none⟩ = false) ∧ Hid (g < wr.heap.size) ∧ Hid (Below w1.heap.size w1 wr)) (fun s _ => J + 1 - (intOf s).toNat)
            case atStart => exact ⟨0, by omega, rfl, F5, hfr', hg', hB5⟩
            case round =>
              obtain ⟨j, hj, rfl, hF6, hfr6, hg6, hB6⟩ := hrel
              clear F5 hfr' hg' hB5
              by_cases cj2 : j ≤ J
              · have cj1 : (j : Int) ≤ (J : Int) := by omega
                by_cases ij : i = j
                · subst ij
                  have kd := hideD (KD.out i ci)
                  have F7 : Hid (∀ k, k < m → wr.cell? ⟨g, k, none⟩ = some (.int .i32 (wdK J lo up c1 (i * (J + 1) + (i + 1)) k))) := fun k hk => by rw [← Nat.add_assoc, kd.out]; exact hF6.out k hk
                  clear kd hF6
                  go_wp2_with fail
                  go_roundw
                  case rel => exact ⟨i + 1, by omega, by go_num, F7, hfr6, hg6, hB6⟩
                  case measure => simp [intOf]; omega
                · have ij1 : ¬ (i : Int) = (j : Int) := by omega
                  have ij2 : ((i : Int) != (j : Int)) = true := by simpa using ij1
                  have pl := HPl.out i j ci cj2
                  have kn : Hid (∀ k, wdK J lo up c1 (i * (J + 1) + j + 1) k = updR (wdK J lo up c1 (i * (J + 1) + j)) (i * (J + 1) + j) (wdV i (cstN lo i) (cstN up j) (c1 (i * (J + 1) + j))) k) := fun k => KN.out i j k cj2 ij
                  have f1 := hF6.out _ pl
                  rw [KC.out] at f1
                  have z1 := hfr6.out (i * (J + 1) + j)
                  have HAi : Hid (∀ w', Below wr.heap.size wr w' → _) := fun w' hb => HA.out i w' ci (beyondD hB6.out hb)
                  have HAj : Hid (∀ w', Below wr.heap.size wr w' → _) := fun w' hb => HA'.out j w' cj2 (beyondD hB6.out hb)
                  have HWij : Hid (∀ w', _) := fun w' => HW.out i j w' ci cj2
                  have A1 := hideD (HMul.out i)
                  have F7 : Hid (∀ k, k < m → ((wr.setCell ⟨g, i * (J + 1) + j, none⟩ (.int .i32 (wdV i (cstN lo i) (cstN up j) (c1 (i * (J + 1) + j))))).drew).cell? ⟨g, k, none⟩ = some (.int .i32 (wdK J lo up c1 (i * (J + 1) + (j + 1)) k))) := fun k hk => by
                    show (wr.setCell _ _).cell? _ = _
                    rw [← Nat.add_assoc, kn.out k]
                    by_cases e : k = i * (J + 1) + j
                    · subst e
                      rw [World.cell?_setCell_same _ _ _ (hF6.out _ hk)]
                      unfold updR
                      rw [if_pos rfl]
                    · rw [World.cell?_setCell_other _ _ _ _ (by intro h; injection h; omega), hF6.out k hk]
                      unfold updR
                      rw [if_neg e]
                  generalize wdV i (cstN lo i) (cstN up j) (c1 (i * (J + 1) + j)) = z at *
                  generalize cstN lo i = x at *
                  generalize cstN up j = y at *
                  generalize c1 (i * (J + 1) + j) = b' at *
                  have Z7 : Hid (∀ a, ((wr.setCell ⟨g, i * (J + 1) + j, none⟩ (.int .i32 z)).drew).frozen? ⟨g, a, none⟩ = false) := fun a => by show (wr.setCell _ _).frozen? _ = _; rw [World.frozen?_setCell]; exact hfr6.out a
                  have G7 : Hid (g < ((wr.setCell ⟨g, i * (J + 1) + j, none⟩ (.int .i32 z)).drew).heap.size) := by show g < (wr.setCell _ _).heap.size; rw [World.size_setCell]; exact hg6.out
                  have B7 : Hid (Below w1.heap.size w1 ((wr.setCell ⟨g, i * (J + 1) + j, none⟩ (.int .i32 z)).drew)) := (hB6.out.setCell (p := ⟨g, i * (J + 1) + j, none⟩) g1 _).drew
                  generalize i * (J + 1) = A at *
                  have s1 : A ≤ 1000000 := by omega
                  have s2 : A + j ≤ 1000000 := by omega
                  have s3 : J + 1 ≤ 1000000 := by omega
                  have E1 : Hid (wrap64 ((J : Int) + 1) = (J : Int) + 1) := wrap_small (k := J + 1) s3
                  have E2 : Hid (wrap64 ((i : Int) * ((J : Int) + 1)) = (A : Int)) := by show _ = _; rw [A1.out]; exact wrap_small s1
                  have E3 : Hid (wrap64 ((A : Int) + (j : Int)) = ((A + j : Nat) : Int)) := wrap_small (k := A + j) s2
                  have D1 : Hid (IntKind.i64.wrap ((J : Int) + 1) = (J : Int) + 1) := wrap_smallK (k := J + 1) s3
                  have D2 : Hid (IntKind.i64.wrap ((i : Int) * ((J : Int) + 1)) = (A : Int)) := by show _ = _; rw [A1.out]; exact wrap_smallK s1
                  have D3 : Hid (IntKind.i64.wrap ((A : Int) + (j : Int)) = ((A + j : Nat) : Int)) := wrap_smallK (k := A + j) s2
                  have q1 : ((A + j : Nat) : Int) < (m : Int) := by omega
                  generalize hP : A + j = P at *
                  clear hP s1 s2 s3 hF6 hfr6 hg6 hB6 KN KC KD KA HPl HEnd HMul HA HA' HW HOf kn A1 g1 pl hi0 hz0 hz1 hz2
                  go_upto_region 27 with (fail)
                  have a1 := E1.out
                  have a2 := E2.out
                  have a3 := E3.out
                  have b1 := D1.out
                  have b2 := D2.out
                  have b3 := D3.out
                  have B5 := Below.refl wr.heap.size wr
                  clear E1 E2 E3 D1 D2 D3
                  go_region_with (first
                    | (go_at_call 127; with_reducible refine (HAi.out _ (by first | assumption | (apply Below.drew; assumption))).mono ?_; rintro e' w6 ⟨rfl, rfl⟩)
                    | (go_at_call 127; with_reducible refine (HAj.out _ (by first | assumption | (apply Below.drew; assumption))).mono ?_; rintro e' w6 ⟨rfl, rfl⟩)
                    | (go_at_call 126; with_reducible refine (HWij.out _).mono ?_; rintro e' w6 ⟨rfl, rfl⟩))
                  all_goals
                    clear a1 a2 a3 b1 b2 b3 f1 z1 B5 HAi HAj HWij q1
                    go_wp2_with fail
                    exact ⟨⟨j + 1, by omega, by go_num, F7, Z7, G7, B7⟩, by simp [intOf]; omega⟩
              · have cj1 : ¬ ((j : Int) ≤ (J : Int)) := by omega
                have ej : i * (J + 1) + j = (i + 1) * (J + 1) := by rw [Nat.add_mul, Nat.one_mul]; omega
                have F8 : Hid (∀ k, k < m → wr.cell? ⟨g, k, none⟩ = some (.int .i32 (wdK J lo up c1 ((i + 1) * (J + 1)) k))) := by rw [← ej]; exact hF6
                clear ej hF6
                go_wp2_with fail
                go_roundw
                case rel => exact ⟨i + 1, by omega, by go_num, F8, hfr6, hg6, hB6⟩
                case measure => simp [intOf]; omega
          · have ci1 : ¬ ((i : Int) ≤ (J : Int)) := by omega
            have ei : i * (J + 1) = m := by rw [show i = J + 1 by omega]; exact HEnd.out
            have F8 : Hid (∀ k, k < m → wr.cell? ⟨g, k, none⟩ = some (.int .i32 (wdR J lo up c1 k))) := fun k hk => by rw [← KA.out k hk, ← ei]; exact hF.out k hk
            have HO := hideD (HOf.out g cp wr F8.out)
            clear ei F8 hF HOf KN KC KD KA HPl HEnd HMul HA HA' HW
            go_wp2_with fail
            refine HO.out.mono ?_
            rintro e' w6 ⟨⟨b', rfl, ho⟩, hb6⟩
            go_wp2_with fail
            exact bodyPost_ret (v := .tuple #[.pointer (some ⟨b', 0, none⟩), .int .i64 0]) (by simp [results, Tryd.results60, go_sem]) rfl ⟨ho.out, beyondD hB5.out hb6.out⟩
end Go.Proofs.YtfffcmelkdmjaaaDoor
