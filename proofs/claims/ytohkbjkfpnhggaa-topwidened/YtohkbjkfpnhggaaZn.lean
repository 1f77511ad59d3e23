/-
  LU and Max of the program.
-/
import Derived.Test.YtohkbjkfpnhggaaIcz
import Derived.Test.YtohkbjkfpnhggaaJez
import Derived.Test.YtohkbjkfpnhggaaZm
namespace Go.Proofs.Ytohkbjkfpnhggaa
open Go.RowKit
set_option linter.unusedVariables false
set_option maxRecDepth 100000
def frS (l : List Int) : Nat → Mat → Mat
  | 0, p => p
  | K + 1, p => frP (l.getD K 0).toNat (frS l K p)
theorem FullC.self {n m : Nat} {p : Mat} {c : Row} (h : FullC n m p c) : FullC n m p (cellsUpto n p m) := ⟨h.cl, h.low, h.nar, rfl⟩
theorem frS_full {n m : Nat} {p : Mat} {c : Row} {l : List Int} (hm : m = (n + 1) * (n + 1)) (h : FullC n m p c) : ∀ K, hasA n l K = true → FullC n m (frS l K p) (cellsUpto n (frS l K p) m) ∧ Le n p (frS l K p)
  | 0, _ => ⟨h.self, fun _ _ _ _ => Int.le_refl _⟩
  | K + 1, ha => by
    have ha' : hasA n l K = true := by simp only [hasA, Bool.and_eq_true] at ha; exact ha.1
    have hx := hasA_at ha K (by omega)
    obtain ⟨f1, f2⟩ := frS_full hm h K ha'
    refine ⟨frP_full hm f1 (by omega), fun i j hi hj => Int.le_trans (f2 i j hi hj) (frP_le f1 (by omega) i j hi hj)⟩
theorem frS_rd {n m : Nat} {p : Mat} {c : Row} {l : List Int} (hm : m = (n + 1) * (n + 1)) (h : FullC n m p c) : ∀ K, hasA n l K = true → Rd n (freeL n l K (oR n c m)) (frS l K p)
  | 0, _ => h.rd hm
  | K + 1, ha => by
    have ha' : hasA n l K = true := by simp only [hasA, Bool.and_eq_true] at ha; exact ha.1
    have hx := hasA_at ha K (by omega)
    exact (frS_rd hm h K ha').free (by omega)
theorem freeL_empty {n : Nat} {l : List Int} : ∀ K, hasA n l K = true → (∀ i j, i ≤ n → j ≤ n → freeL n l K (fun _ _ => 0) i j = 0 ∨ freeL n l K (fun _ _ => 0) i j = 1 ∨ freeL n l K (fun _ _ => 0) i j = 2147483647) ∧ freeL n l K (fun _ _ => 0) 0 0 = 0
  | 0, _ => ⟨fun _ _ _ _ => .inl rfl, rfl⟩
  | K + 1, ha => by
    have ha' : hasA n l K = true := by simp only [hasA, Bool.and_eq_true] at ha; exact ha.1
    have hx := hasA_at ha K (by omega)
    obtain ⟨f1, f2⟩ := freeL_empty K ha'
    refine ⟨fun i j hi hj => ?_, ?_⟩
    · rw [freeL, freeK_at (by omega)]
      split
      · rw [if_pos (by omega)]; exact .inr (.inr rfl)
      · split
        · rw [if_pos (by omega)]; exact f1 i 0 hi (by omega)
        · exact f1 i j hi hj
    · rw [freeL, freeK_at (by omega), if_neg (by omega), if_neg (by omega), f2]
/-- The cells of a zone in which clocks are any. -/
theorem free_rowL {n m : Nat} {c : Row} {l : List Int} (hn : n ≤ 8) (hm : m = (n + 1) * (n + 1)) (h : ZC n m c) (ha : hasA n l l.length = true) : ∃ c1, ZC n m c1 ∧ incB m c1 c = true ∧ RightM n (freeL n l l.length (oR n c m)) ∧ zoneR n (drf n m (rowsL n (freeL n l l.length (oR n c m)) (n + 1))) = some c1 ∧ (∀ p, FullC n m p c → c1 = cellsUpto n (frS l l.length p) m ∧ FullC n m (frS l l.length p) c1 ∧ Le n p (frS l l.length p)) ∧ (c = (fun _ => 0) → c1 = fun _ => 0) := by
  rcases h with rfl | ⟨p, hp⟩
  · obtain ⟨f1, f2⟩ := freeL_empty (n := n) l.length ha
    refine ⟨fun _ => 0, .inl rfl, incB_iff.2 (.inl (by decide)), ?_, ?_, fun p hp => ?_, fun _ => rfl⟩
    · rw [oR_zero]; exact right_zero (m := m) f1
    · refine pm_hollow hm ?_
      rw [oR_zero]; exact f2
    · have := hp.zero hm
      cases this
  · obtain ⟨F, L⟩ := frS_full (l := l) hm hp l.length ha
    have R := frS_rd (l := l) hm hp l.length ha
    have hz := R.self hn hm F.cl
    rw [if_pos F.nar] at hz
    refine ⟨_, .inr ⟨_, F⟩, full_inc F hp hm L, R.right, hz, fun p' hp' => ?_, fun e => ?_⟩
    · obtain ⟨F', L'⟩ := frS_full (l := l) hm hp' l.length ha
      have R' := frS_rd (l := l) hm hp' l.length ha
      have hz' := R'.self hn hm F'.cl
      rw [if_pos F'.nar, hz] at hz'
      have e := Option.some.inj hz'
      exact ⟨e, by rw [e]; exact F', L'⟩
    · have := hp.zero hm
      rw [e] at this
      cases this
theorem free_list {b n : Nat} {v : Value} {c : Row} {l : List Int} {w : World} (h : n ≤ 8) (hz : ZoneAt w b n c) (hc : C32 c) (hv : IntsAt w v l) (hq : l.length ≤ 9223372036854775807) :
    Calls Try.prog 77 #[.pointer (some ⟨b, 0, none⟩), v] w fun e w' => FreeOut w' w.heap.size n e l (oR n c ((n + 1) * (n + 1))) ∧ Below w.heap.size w w' := by
  rcases hv with ⟨ad, cp, rfl, rfl⟩ | ⟨cb, off, cap, rfl, hcell⟩
  · exact free_main b n 0 cp ad c [] w h hz hc rfl (.inl ⟨ad, cp, rfl, rfl⟩) (by omega)
  · exact free_main b n l.length cap _ c l w h hz hc rfl (.inr ⟨cb, off, cap, rfl, hcell⟩) hq
theorem freeL_tells {b n m : Nat} {v : Value} {c c1 : Row} {l : List Int} {w : World} (hn : n ≤ 8) (hm : m = (n + 1) * (n + 1)) (hz : ZoneAt w b n c) (hc : C32 c) (hv : IntsAt w v l) (hq : l.length ≤ 9223372036854775807) (ha : hasA n l l.length = true)
    (hR : RightM n (freeL n l l.length (oR n c m))) (hz1 : zoneR n (drf n m (rowsL n (freeL n l l.length (oR n c m)) (n + 1))) = some c1) : OTells w n 77 #[.pointer (some ⟨b, 0, none⟩), v] (some c1) := by
  have H := free_list hn hz hc hv hq
  rw [← hm] at H
  refine tells_of hm hR hz1 (H.mono fun e w' ⟨h, hb⟩ => ⟨?_, hb⟩)
  rcases h with ⟨h, -⟩ | ⟨-, h⟩
  · rw [ha] at h; cases h
  · exact h
theorem cstN_bd {l : List Int} (h : cstA l l.length = true) (i : Nat) : 0 ≤ cstN l i ∧ cstN l i ≤ 1048576 := by
  unfold cstN
  split
  · omega
  · by_cases q : i - 1 < l.length
    · have := cstA_at h (i - 1) q
      omega
    · have : l.getD (i - 1) 0 = 0 := by simp [List.getD, Nat.not_lt.1 q]
      omega
theorem mayE_zero {n : Nat} {l : List Int} (h : mayE n l = 0) : l.length = n ∧ cstA l l.length = true := by
  unfold mayE at h
  split at h
  · rename_i e
    split at h
    · rename_i e'; exact ⟨e, e'⟩
    · cases h
  · cases h
theorem sil_has {lo up : List Int} {n : Nat} : hasA n (silL lo up n) (silL lo up n).length = true := by
  have : ∀ K, K ≤ (silL lo up n).length → hasA n (silL lo up n) K = true := by
    intro K
    induction K with
    | zero => intro _; rfl
    | succ K ih =>
      intro hK
      simp only [hasA, ih (by omega), Bool.true_and]
      have mem : (silL lo up n).getD K 0 ∈ silL lo up n := by
        have e : (silL lo up n).getD K 0 = (silL lo up n)[K] := by simp [List.getD, show K < (silL lo up n).length by omega]
        rw [e]; exact List.getElem_mem _
      obtain ⟨k, h1, h2, -⟩ := (silL_mem n).1 mem
      rw [h2]
      exact decide_eq_true (by omega)
  exact this _ (Nat.le_refl _)
theorem wdR_right {n : Nat} {lo up : List Int} {c : Row} (h1 : cstA lo lo.length = true) (h2 : cstA up up.length = true) (hc : ∀ k, rightB (c k) = true) (k : Nat) : rightB (wdR n lo up c k) = true := by
  unfold wdR
  split
  · exact hc k
  · unfold wdV
    have := cstN_bd h2 (k % (n + 1))
    split
    · rfl
    · split
      · simp only [rightB, decide_eq_true_eq]; omega
      · exact hc k
theorem lu_nil (v u : Value) (w : World) : Calls Try.prog 26 #[.pointer none, v, u] w fun e w' => e = errOf 1 ∧ w' = w := by
  go_enter Try.func26, Try.ntmps26
  go_wp2_with fail
  exact bodyPost_ret (v := .tuple #[.pointer none, .int .i64 1]) (by simp [results, Try.results26, go_sem]) rfl ⟨rfl, rfl⟩
theorem lu_err1 {b n q cap : Nat} {ad : Option Addr} {u : Value} {c : Row} {lo : List Int} {w : World} (hz : ZoneAt w b n c) (hl : lo.length = q) (hv : IntsAt w (.slice ad q cap) lo) (hq : q ≤ 9223372036854775807) (he : ¬ mayE n lo = 0) :
    Calls Try.prog 26 #[.pointer (some ⟨b, 0, none⟩), .slice ad q cap, u] w fun e w' => e = errOf (mayE n lo) ∧ w' = w := by
  have HD := hideD (dimZ_any b n w hz.clocks)
  have HM := hideD (maybe_any n q cap ad lo w hl hv hq)
  have he' : (mayE n lo != 0) = true := by simpa using he
  generalize mayE n lo = E at *
  clear hz hv
  go_enter Try.func26, Try.ntmps26
  go_wp2_with fail
  refine HD.out.mono ?_
  rintro e w1 ⟨rfl, rfl⟩
  go_wp2_with fail
  refine HM.out.mono ?_
  rintro e w1 ⟨rfl, rfl⟩
  go_wp2_with fail
  exact bodyPost_ret (v := .tuple #[.pointer none, .int .i64 E]) (by simp [results, Try.results26, go_sem]) rfl ⟨rfl, rfl⟩
theorem lu_err2 {b n q cap q' cap' : Nat} {ad ad' : Option Addr} {c : Row} {lo up : List Int} {w : World} (hz : ZoneAt w b n c) (hl : lo.length = q) (hv : IntsAt w (.slice ad q cap) lo) (hq : q ≤ 9223372036854775807) (hl' : up.length = q') (hv' : IntsAt w (.slice ad' q' cap') up) (hq' : q' ≤ 9223372036854775807) (h0 : mayE n lo = 0) (he : ¬ mayE n up = 0) :
    Calls Try.prog 26 #[.pointer (some ⟨b, 0, none⟩), .slice ad q cap, .slice ad' q' cap'] w fun e w' => e = errOf (mayE n up) ∧ w' = w := by
  have HD := hideD (dimZ_any b n w hz.clocks)
  have HM := maybe_any n q cap ad lo w hl hv hq
  rw [h0] at HM
  have HM := hideD HM
  have HM' := hideD (maybe_any n q' cap' ad' up w hl' hv' hq')
  have he' : (mayE n up != 0) = true := by simpa using he
  generalize mayE n up = E at *
  clear hz hv hv'
  go_enter Try.func26, Try.ntmps26
  go_wp2_with fail
  refine HD.out.mono ?_
  rintro e w1 ⟨rfl, rfl⟩
  go_wp2_with fail
  refine HM.out.mono ?_
  rintro e w1 ⟨rfl, rfl⟩
  go_wp2_with fail
  refine HD.out.mono ?_
  rintro e w1 ⟨rfl, rfl⟩
  go_wp2_with fail
  refine HM'.out.mono ?_
  rintro e w1 ⟨rfl, rfl⟩
  go_wp2_with fail
  exact bodyPost_ret (v := .tuple #[.pointer none, .int .i64 E]) (by simp [results, Try.results26, go_sem]) rfl ⟨rfl, rfl⟩
set_option maxHeartbeats 2000000 in
theorem lu_tells {b n m q cap q' cap' : Nat} {ad ad' : Option Addr} {c c1 : Row} {lo up : List Int} {w : World} (hn : n ≤ 8) (hm : m = (n + 1) * (n + 1)) (hz : ZoneAt w b n c) (zc : ZC n m c) (hl : lo.length = q) (hv : IntsAt w (.slice ad q cap) lo) (hl' : up.length = q') (hv' : IntsAt w (.slice ad' q' cap') up) (h0 : mayE n lo = 0) (h1 : mayE n up = 0)
    (zc1 : ZC n m c1) (hR : RightM n (freeL n (silL lo up n) (silL lo up n).length (oR n c m))) (hz1 : zoneR n (drf n m (rowsL n (freeL n (silL lo up n) (silL lo up n).length (oR n c m)) (n + 1))) = some c1) :
    OTells w n 26 #[.pointer (some ⟨b, 0, none⟩), .slice ad q cap, .slice ad' q' cap'] (luO n m lo up c1) := by
  obtain ⟨l1, k1⟩ := mayE_zero h0
  obtain ⟨l2, k2⟩ := mayE_zero h1
  obtain rfl : q = n := by omega
  obtain rfl : q' = q := by omega
  have HD := hideD (dimZ_any b q' w hz.clocks)
  have HM := maybe_any q' q' cap ad lo w hl hv (by omega)
  rw [h0] at HM
  have HM := hideD HM
  have HM' := maybe_any q' q' cap' ad' up w hl' hv' (by omega)
  rw [h1] at HM'
  have HM' := hideD HM'
  have HB := hideD (by_any q' cap cap' ad ad' lo up w hn hl hl' hv hv')
  have sl := silL_len lo up q'
  have HW : Hid (∀ w' v bl bh, Below w.heap.size w w' → IntsAt w' v (silL lo up q') → ByAt w' bl bh q' lo up → OTells w' q' 49 #[.agg #[v, byF bl bh], .pointer (some ⟨b, 0, none⟩)] (luO q' m lo up c1)) := fun w' v bl bh hb hi hby => by
    refine wof_any b bl bh q' m v c c1 lo up w' hn hm (hz.past hb) (zc_32 hm zc) hi hby ?_ (fun i hi => ⟨(cstN_bd k1 i).1, (cstN_bd k1 i).2, (cstN_bd k2 i).1, (cstN_bd k2 i).2⟩) (wdR_right k1 k2 (zc_right hm zc1)) (fun w'' hb' => freeL_tells hn hm ((hz.past hb).past hb') (zc_32 hm zc) (hi.past hb') (by omega) sil_has hR hz1)
    rcases hi with ⟨ad, c, rfl, -⟩ | ⟨g, off, cap, rfl, -⟩
    · exact ⟨_, _, _, rfl⟩
    · exact ⟨_, _, _, rfl⟩
  obtain ⟨o, hO⟩ : ∃ o, luO q' m lo up c1 = o := ⟨_, rfl⟩
  rw [hO] at HW ⊢
  clear hz hv hv' hO
  unfold OTells at *
  go_enter Try.func26, Try.ntmps26
  go_wp2_with fail
  refine HD.out.mono ?_
  rintro e w1 ⟨rfl, rfl⟩
  go_wp2_with fail
  refine HM.out.mono ?_
  rintro e w1 ⟨rfl, rfl⟩
  go_wp2_with fail
  refine HD.out.mono ?_
  rintro e w1 ⟨rfl, rfl⟩
  go_wp2_with fail
  refine HM'.out.mono ?_
  rintro e w1 ⟨rfl, rfl⟩
  go_wp2_with fail
  refine HB.out.mono ?_
  rintro e w2 ⟨⟨v, bl, bh, rfl, hi, hby⟩, hb2⟩
  have HW2 := hideD (HW.out w2 v bl bh hb2 hi.out hby.out)
  have B2 := hideD hb2
  clear HD HM HM' HB HW hb2 hi hby
  unfold byF at *
  go_wp2_with fail
  refine HW2.out.mono ?_
  rintro e w3 ⟨⟨B, hO⟩, hb3⟩
  have B3 := hideD (beyondD B2.out hb3)
  clear HW2 hb3 B2
  cases o with
  | none =>
    obtain rfl : e = errOf 10 := hO
    go_wp2_with fail
    exact bodyPost_ret (v := .tuple #[.pointer none, .int .i64 10]) (by simp [results, Try.results26, go_sem]) rfl ⟨⟨0, rfl⟩, B3.out⟩
  | some d' =>
    obtain ⟨z', l', rfl, hz'⟩ := hO
    have HZ := hideD hz'
    clear hz'
    go_wp2_with fail
    exact bodyPost_ret (v := .tuple #[.pointer (some ⟨z', 0, none⟩), .int .i64 0]) (by simp [results, Try.results26, go_sem]) rfl ⟨⟨B, z', l', rfl, HZ.out⟩, B3.out⟩
theorem max_err (v u : Value) (k : Int) (w : World) (H : Calls Try.prog 26 #[v, u, u] w fun e w' => e = errOf k ∧ w' = w) : Calls Try.prog 8 #[v, u] w fun e w' => e = errOf k ∧ w' = w := by
  have H := hideD H
  go_enter Try.func8, Try.ntmps8
  go_wp2_with fail
  refine H.out.mono ?_
  rintro e w' ⟨rfl, rfl⟩
  go_wp2_with fail
  exact bodyPost_ret (v := .tuple #[.pointer none, .int .i64 k]) (by simp [results, Try.results8, go_sem]) rfl ⟨rfl, rfl⟩
theorem max_tells (v u : Value) (n : Nat) (o : Option Row) (w : World) (H : OTells w n 26 #[v, u, u] o) : OTells w n 8 #[v, u] o := by
  unfold OTells at *
  have H := hideD H
  go_enter Try.func8, Try.ntmps8
  go_wp2_with fail
  refine H.out.mono ?_
  rintro e w' ⟨⟨B, hO⟩, hb⟩
  have HB := hideD hb
  clear H hb
  cases o with
  | none =>
    obtain rfl : e = errOf 10 := hO
    go_wp2_with fail
    exact bodyPost_ret (v := .tuple #[.pointer none, .int .i64 10]) (by simp [results, Try.results8, go_sem]) rfl ⟨⟨0, rfl⟩, HB.out⟩
  | some d' =>
    obtain ⟨z', l', rfl, hz'⟩ := hO
    have HZ := hideD hz'
    clear hz'
    go_wp2_with fail
    exact bodyPost_ret (v := .tuple #[.pointer (some ⟨z', 0, none⟩), .int .i64 0]) (by simp [results, Try.results8, go_sem]) rfl ⟨⟨B, z', l', rfl, HZ.out⟩, HB.out⟩
end Go.Proofs.Ytohkbjkfpnhggaa

/-
  The widened zone, in numbers: its closed form, that it is wider, that it has no bound that may not be.
-/
namespace Go.Proofs.Ytohkbjkfpnhggaa
open Go.RowKit
set_option linter.unusedVariables false
set_option maxRecDepth 100000
/-! ### What a closed form reaches by few finite bounds -/
def rch (n : Nat) (W : Mat) (i : Nat) : Nat → Nat → Bool
  | 0, j => decide (j = i)
  | e + 1, j => rch n W i e j || (List.range (n + 1)).any (fun a => rch n W i e a && decide (¬ W a j = opn))
theorem rch_bd {n i : Nat} {W q : Mat} {BB : Int} (hq : Cl n q) (hl : Le n q W) (hi : i ≤ n) (b0 : 0 ≤ BB) (b1 : BB ≤ 4000000) (hB : ∀ a b, a ≤ n → b ≤ n → W a b = opn ∨ W a b ≤ BB) : ∀ e j, e ≤ 100 → j ≤ n → rch n W i e j = true → q i j ≤ (e : Int) * BB + 1
  | 0, j, _, hj, h => by
    have : j = i := by simpa [rch] using h
    subst this
    rw [hq.one j hj]
    simp
  | e + 1, j, he, hj, h => by
    simp only [rch, Bool.or_eq_true, List.any_eq_true, Bool.and_eq_true, decide_eq_true_eq] at h
    have m0 : (((e + 1 : Nat) : Int)) * BB = (e : Int) * BB + BB := by rw [Int.natCast_add, Int.add_mul]; simp
    rw [m0]
    rcases h with h | ⟨a, ha, h1, h2⟩
    · have := rch_bd hq hl hi b0 b1 hB e j (by omega) hj h
      omega
    · have ha : a ≤ n := by have := List.mem_range.1 ha; omega
      have x := rch_bd hq hl hi b0 b1 hB e a (by omega) ha h1
      have y := hl a j ha hj
      have z := (hB a j ha hj).resolve_left h2
      have t := hq.t hi hj ha
      have c := pl_cases (q i a) (q a j)
      have ho := opn_val
      have mb : (e : Int) * BB ≤ 100 * 4000000 := Int.mul_le_mul (by omega) b1 b0 (by omega)
      generalize (e : Int) * BB = E at *
      omega
theorem rch_stable {n i : Nat} {W : Mat} (hi : i ≤ n) : ∃ e, e ≤ n + 1 ∧ ∀ j, j ≤ n → rch n W i (e + 1) j = true → rch n W i e j = true := by
  have key : ∀ E, (∃ e, e < E ∧ ∀ j, j ≤ n → rch n W i (e + 1) j = true → rch n W i e j = true) ∨ E + 1 ≤ (List.range (n + 1)).countP (rch n W i E) := by
    intro E
    induction E with
    | zero =>
      right
      have : 0 < (List.range (n + 1)).countP (rch n W i 0) := List.countP_pos_iff.2 ⟨i, by simp; omega, by simp [rch]⟩
      omega
    | succ E ih =>
      rcases ih with ⟨e, he, h⟩ | ih
      · exact .inl ⟨e, by omega, h⟩
      · by_cases st : ∀ j, j ≤ n → rch n W i (E + 1) j = true → rch n W i E j = true
        · exact .inl ⟨E, by omega, st⟩
        · right
          have ex : ∃ j, j ≤ n ∧ rch n W i (E + 1) j = true ∧ rch n W i E j = false := by
            apply Classical.byContradiction
            intro hc
            apply st
            intro j hj h1
            cases h2 : rch n W i E j with
            | true => rfl
            | false => exact absurd ⟨j, hj, h1, h2⟩ hc
          obtain ⟨j, hj, h1, h2⟩ := ex
          have := countP_lt (f := rch n W i E) (g := rch n W i (E + 1)) (List.range (n + 1)) (fun a _ ha => by simp only [rch, ha, Bool.true_or]) j (List.mem_range.2 (by omega)) h2 h1
          omega
  rcases key (n + 2) with ⟨e, he, h⟩ | h
  · exact ⟨e, by omega, h⟩
  · have := List.countP_le_length (p := rch n W i (n + 2)) (l := List.range (n + 1))
    simp at this
    omega
/-- The greatest closed matrix below one whose finite bounds are small has none that is not. -/
theorem reach_bd {n : Nat} {W q : Mat} {BB : Int} (hn : n ≤ 8) (hq : Cl n q) (hl : Le n q W) (hg : ∀ s, Cl n s → Le n s W → Le n s q) (b0 : 0 ≤ BB) (b1 : BB ≤ 4000000) (hB : ∀ a b, a ≤ n → b ≤ n → W a b = opn ∨ W a b ≤ BB) {i j : Nat} (hi : i ≤ n) (hj : j ≤ n) : q i j = opn ∨ q i j ≤ 40000000 := by
  obtain ⟨e, he, st⟩ := rch_stable (W := W) hi
  cases r : rch n W i e j with
  | true =>
    right
    have := rch_bd hq hl hi b0 b1 hB e j (by omega) hj r
    have mb : (e : Int) * BB ≤ 9 * 4000000 := Int.mul_le_mul (by omega) b1 b0 (by omega)
    omega
  | false =>
    left
    have ho := opn_val
    -- no finite bound leads out of what is reached
    have out : ∀ a b, a ≤ n → b ≤ n → rch n W i e a = true → rch n W i e b = false → W a b = opn := by
      intro a b ha hb h1 h2
      apply Classical.byContradiction
      intro hw
      have : rch n W i (e + 1) b = true := by
        simp only [rch, Bool.or_eq_true, List.any_eq_true, Bool.and_eq_true, decide_eq_true_eq]
        exact .inr ⟨a, by simp; omega, h1, hw⟩
      rw [st b hb this] at h2
      cases h2
    have si : rch n W i e i = true := by
      have : ∀ E, rch n W i E i = true := by
        intro E
        induction E with
        | zero => simp [rch]
        | succ E ih => simp only [rch, ih, Bool.true_or]
      exact this e
    let s : Mat := fun a b => if rch n W i e a = true ∧ rch n W i e b = false then opn else q a b
    have sge : ∀ a b, a ≤ n → b ≤ n → q a b ≤ s a b := fun a b ha hb => by
      show q a b ≤ if _ then _ else _
      split
      · exact F_opn (hq.F ha hb)
      · exact Int.le_refl _
    have sF : ∀ a b, a ≤ n → b ≤ n → Fin' 144115188075855872 (s a b) := fun a b ha hb => by
      show Fin' _ (if _ then _ else _)
      split
      · exact .inl rfl
      · exact hq.fin a b ha hb
    have cs : Cl n s := by
      refine ⟨sF, fun a ha => ?_, fun k hk a b ha hb => ?_⟩
      · show (if _ then _ else _) = (1 : Int)
        rw [if_neg (by intro h; rw [h.1] at h; exact absurd h.2 (by decide)), hq.one a ha]
      · have hk' : k ≤ n := by omega
        by_cases c : rch n W i e a = true ∧ rch n W i e b = false
        · have : s a b = opn := if_pos c
          rw [this]
          cases rk : rch n W i e k with
          | true =>
            rw [show s k b = opn from if_pos ⟨rk, c.2⟩, pl_opn]; exact Int.le_refl _
          | false =>
            rw [show s a k = opn from if_pos ⟨c.1, rk⟩, opn_pl]; exact Int.le_refl _
        · rw [show s a b = q a b from if_neg c]
          exact Int.le_trans (hq.t ha hb hk') (pl_mono (hq.F ha hk') (hq.F hk' hb) ((sF a k ha hk').mono (by decide)) ((sF k b hk' hb).mono (by decide)) (sge a k ha hk') (sge k b hk' hb))
    have le := hg s cs (fun a b ha hb => by
      show (if _ then _ else _) ≤ W a b
      split
      · rename_i c
        rw [out a b ha hb c.1 c.2]; exact Int.le_refl _
      · exact hl a b ha hb) i j hi hj
    have : s i j = opn := if_pos ⟨si, r⟩
    rw [this] at le
    exact Int.le_antisymm (F_opn (hq.F hi hj)) le
/-! ### The widened bounds -/
def wdP (lo up : List Int) (F : Mat) : Mat := fun i j => if i = j then F i j else if ¬ i = 0 ∧ 2 * cstN lo i + 1 < F i j then opn else if F i j < -(2 * cstN up j) then -(2 * cstN up j) else F i j
theorem wd_drf {n m : Nat} {lo up : List Int} {F : Mat} {c1 : Row} (hm : m = (n + 1) * (n + 1)) (h : FullC n m F c1) (h1 : cstA lo lo.length = true) (h2 : cstA up up.length = true) {i j : Nat} (hi : i ≤ n) (hj : j ≤ n) : drf n m (listOf (wdR n lo up c1) m) i j = wdP lo up F i j := by
  have lt : i * (n + 1) + j < m := by rw [hm]; exact pos_lt hi hj
  rw [drf_at n m _ hm i j hi hj, listOf_get _ _ _ lt]
  unfold wdR wdP
  rw [place_div hj, place_mod hj, h.at hm hi hj]
  have ok := h.ok hm hi hj
  have le := h.le hi hj
  have sv : startV i j = opn ∨ startV i j = 1 := by unfold startV; split; exact .inl rfl; exact .inr rfl
  have bx := cstN_bd h1 i
  have bY := cstN_bd h2 j
  have ho := opn_val
  by_cases e : i = j
  · rw [if_pos e, if_pos e]
    exact tgV_narr sv le ok
  · rw [if_neg e, if_neg e]
    unfold wdV
    have cmp : (2 * cstN lo i + 1 < narB (F i j) ↔ 2 * cstN lo i + 1 < F i j) ∧ (narB (F i j) < -(2 * cstN up j) ↔ F i j < -(2 * cstN up j)) := by
      rcases narOk_cases ok with ⟨k1, k2⟩ | ⟨k1, k2, k3, k4⟩ <;> rw [k2] <;> omega
    by_cases c1 : ¬ i = 0 ∧ 2 * cstN lo i + 1 < F i j
    · rw [if_pos c1, if_pos ⟨c1.1, cmp.1.2 c1.2⟩]
      have : startV i j = opn := by unfold startV; rw [if_pos ⟨c1.1, e⟩]; rfl
      rw [this]; rfl
    · rw [if_neg c1, if_neg (by rw [cmp.1]; exact c1)]
      by_cases c2 : F i j < -(2 * cstN up j)
      · rw [if_pos c2, if_pos (cmp.2.2 c2)]
        unfold tgV
        rw [if_neg (by omega)]
        omega
      · rw [if_neg c2, if_neg (by rw [cmp.2]; exact c2)]
        exact tgV_narr sv le ok
theorem wdP_ge {n m : Nat} {lo up : List Int} {F : Mat} {c1 : Row} (h : FullC n m F c1) : Le n F (wdP lo up F) := fun i j hi hj => by
  unfold wdP
  split
  · exact Int.le_refl _
  · split
    · exact F_opn (h.cl.F hi hj)
    · split
      · omega
      · exact Int.le_refl _
theorem wdP_small {n m : Nat} {lo up : List Int} {F : Mat} {c1 : Row} (h : FullC n m F c1) (h1 : cstA lo lo.length = true) (h2 : cstA up up.length = true) (i j : Nat) (hi : i ≤ n) (hj : j ≤ n) : wdP lo up F i j = opn ∨ wdP lo up F i j ≤ 2097153 := by
  unfold wdP
  have bx := cstN_bd h1 i
  have bY := cstN_bd h2 j
  split
  · rename_i e
    subst e
    rw [h.cl.one i hi]
    exact .inr (by omega)
  · split
    · exact .inl rfl
    · rename_i c1
      split
      · exact .inr (by omega)
      · right
        by_cases i0 : i = 0
        · subst i0
          have := h.low j hj
          omega
        · omega
theorem wdP_low {n m : Nat} {lo up : List Int} {F : Mat} {c1 : Row} (h : FullC n m F c1) (h2 : cstA up up.length = true) (j : Nat) (hj : j ≤ n) : wdP lo up F 0 j ≤ 1 := by
  unfold wdP
  have bY := cstN_bd h2 j
  have := h.low j hj
  split
  · exact this
  · rw [if_neg (by omega)]
    split
    · omega
    · exact this
/-- What LU makes of a zone that is not empty. -/
theorem lu_math {n m : Nat} {lo up : List Int} {F : Mat} {c1 : Row} (hn : n ≤ 8) (hm : m = (n + 1) * (n + 1)) (h : FullC n m F c1) (h1 : cstA lo lo.length = true) (h2 : cstA up up.length = true) :
    ∃ q, FullC n m q (cellsUpto n q m) ∧ luO n m lo up c1 = some (cellsUpto n q m) ∧ Le n F q ∧ Le n q (wdP lo up F) ∧ ∀ s, Cl n s → Le n s (wdP lo up F) → Le n s q := by
  have rr : RightL m (listOf (wdR n lo up c1) m) := fun k hk => by
    rw [listOf_get _ _ _ hk]
    have := wdR_right (n := n) h1 h2 (zc_right hm (.inr ⟨F, h⟩)) k
    simpa only [rightB, decide_eq_true_eq] using this
  have O := drf_ok n m _ hm rr
  have ev : ∀ i j, i ≤ n → j ≤ n → drf n m (listOf (wdR n lo up c1) m) i j = wdP lo up F i j := fun i j hi hj => wd_drf hm h h1 h2 hi hj
  obtain ⟨q, e1, e2⟩ := close_above hn h.cl O (fun i j hi hj => by rw [ev i j hi hj]; exact wdP_ge h i j hi hj)
  have R := close_rounds hn O.fin O.diag e1
  have qc := R.cl hn
  have ql : Le n q (wdP lo up F) := fun i j hi hj => by rw [← ev i j hi hj]; exact R.le i j hi hj
  have qg : ∀ s, Cl n s → Le n s (wdP lo up F) → Le n s q := fun s hs hl => by
    obtain ⟨q', e3, e4⟩ := close_above hn hs O (fun i j hi hj => by rw [ev i j hi hj]; exact hl i j hi hj)
    rw [e1] at e3
    cases e3
    exact e4
  have FC := full_mk hm qc (fun j hj => Int.le_trans (ql 0 j (by omega) hj) (wdP_low h h2 j hj)) fun i j hi hj => by
    have lo' := e2 i j hi hj
    have ho := opn_val
    rcases reach_bd hn qc ql qg (by omega) (by omega) (wdP_small h h1 h2) hi hj with e | e
    · rw [e]; rfl
    · rcases narOk_cases (h.ok hm hi hj) with ⟨k1, -⟩ | ⟨-, -, k3, -⟩
      · omega
      · exact narOk_of (by omega) (by omega)
  refine ⟨q, FC, ?_, e2, ql, qg⟩
  unfold luO
  rw [if_neg (by rw [h.zero hm]; omega)]
  have na := FC.nar
  rw [hm] at na e1 ⊢
  simp only [zoneR, e1, na, if_true]
end Go.Proofs.Ytohkbjkfpnhggaa

/-
  Greater constants widen less; both and more of the statements of extra.
-/
namespace Go.Proofs.Ytohkbjkfpnhggaa
open Go.RowKit
set_option linter.unusedVariables false
set_option maxRecDepth 100000
def memB (l : List Int) : Nat → Nat → Bool
  | 0, _ => false
  | K + 1, i => memB l K i || decide ((l.getD K 0).toNat = i)
theorem memB_iff {l : List Int} {i : Nat} : ∀ K, memB l K i = true ↔ ∃ k, k < K ∧ (l.getD k 0).toNat = i
  | 0 => ⟨fun h => (by cases h), fun ⟨k, h, _⟩ => (by omega)⟩
  | K + 1 => by
    simp only [memB, Bool.or_eq_true, memB_iff K, decide_eq_true_eq]
    constructor
    · rintro (⟨k, h1, h2⟩ | h)
      · exact ⟨k, by omega, h2⟩
      · exact ⟨K, by omega, h⟩
    · rintro ⟨k, h1, h2⟩
      by_cases e : k = K
      · subst e; exact .inr h2
      · exact .inl ⟨k, by omega, h2⟩
theorem memB_pos {n : Nat} {l : List Int} {K i : Nat} (ha : hasA n l K = true) (h : memB l K i = true) : 1 ≤ i := by
  obtain ⟨k, h1, h2⟩ := (memB_iff K).1 h
  have := hasA_at ha k h1
  omega
theorem frS_at {n : Nat} {l : List Int} (p : Mat) : ∀ K, hasA n l K = true → ∀ i j, frS l K p i j = if memB l K i = true then (if i = j then 1 else opn) else if memB l K j = true then p i 0 else p i j
  | 0, _, i, j => by simp [frS, memB]
  | K + 1, ha, i, j => by
    have ha' : hasA n l K = true := by simp only [hasA, Bool.and_eq_true] at ha; exact ha.1
    have hx := hasA_at ha K (by omega)
    have ih := frS_at p K ha'
    have m0 : memB l K 0 = false := by
      cases e : memB l K 0 with
      | false => rfl
      | true => have := memB_pos ha' e; omega
    show frP (l.getD K 0).toNat (frS l K p) i j = _
    have me : ∀ a, memB l (K + 1) a = (memB l K a || decide ((l.getD K 0).toNat = a)) := fun a => rfl
    rw [me i, me j]
    generalize hX : (l.getD K 0).toNat = x at *
    by_cases ci : i = x
    · subst ci
      rw [frP_x, decide_eq_true rfl, Bool.or_true, if_pos rfl]
      by_cases cj : j = i
      · rw [if_pos cj, if_pos cj.symm]
      · rw [if_neg cj, if_neg (fun e => cj e.symm)]
    · rw [decide_eq_false (fun e => ci e.symm), Bool.or_false]
      by_cases cj : j = x
      · subst cj
        rw [frP_c _ ci, ih, decide_eq_true rfl, Bool.or_true, if_pos rfl, m0]
        cases e : memB l K i with
        | true =>
          have := memB_pos ha' e
          rw [if_pos rfl, if_pos rfl, if_neg (by omega), if_neg ci]
        | false => rw [if_neg (by decide), if_neg (by decide), if_neg (by decide)]
      · rw [frP_o _ ci cj, ih, decide_eq_false (fun e => cj e.symm), Bool.or_false]
theorem frS_mono {n m : Nat} {l l' : List Int} {p : Mat} {c : Row} (hm : m = (n + 1) * (n + 1)) (h : FullC n m p c) (ha : hasA n l l.length = true) (ha' : hasA n l' l'.length = true) (hs : ∀ i, memB l' l'.length i = true → memB l l.length i = true) : Le n (frS l' l'.length p) (frS l l.length p) := fun i j hi hj => by
  have F' := (frS_full (l := l') hm h l'.length ha').1
  have top := F_opn (F'.cl.F hi hj)
  have one := F'.cl.one i hi
  rw [frS_at p l.length ha i j]
  cases e1 : memB l l.length i with
  | true =>
    rw [if_pos rfl]
    by_cases ij : i = j
    · subst ij; rw [if_pos rfl, one]; exact Int.le_refl _
    · rw [if_neg ij]; exact top
  | false =>
    have e1' : memB l' l'.length i = false := by
      cases e : memB l' l'.length i with
      | false => rfl
      | true => rw [hs i e] at e1; cases e1
    rw [if_neg (by decide), frS_at p l'.length ha' i j, e1', if_neg (by decide)]
    have le0 : p i j ≤ p i 0 := by
      have t := h.cl.t hi hj (show 0 ≤ n by omega)
      have m1 := pl_mono (h.cl.F hi (show 0 ≤ n by omega)) (h.cl.F (show 0 ≤ n by omega) hj) (h.cl.F hi (show 0 ≤ n by omega)) F1 (Int.le_refl _) (h.low j hj)
      rw [pl_one (h.cl.F hi (by omega))] at m1
      omega
    cases e2 : memB l l.length j with
    | true =>
      rw [if_pos rfl]
      split
      · exact Int.le_refl _
      · exact le0
    | false =>
      have e2' : memB l' l'.length j = false := by
        cases e : memB l' l'.length j with
        | false => rfl
        | true => rw [hs j e] at e2; cases e2
      rw [e2']
      exact Int.le_refl _
theorem mem_sil {lo up : List Int} {n i : Nat} : memB (silL lo up n) (silL lo up n).length i = true ↔ ∃ k, k < n ∧ i = k + 1 ∧ lo.getD k 0 = -1 ∧ up.getD k 0 = -1 := by
  rw [memB_iff]
  constructor
  · rintro ⟨k, h1, h2⟩
    have mem : (silL lo up n).getD k 0 ∈ silL lo up n := by
      have e : (silL lo up n).getD k 0 = (silL lo up n)[k] := by simp [List.getD, h1]
      rw [e]; exact List.getElem_mem _
    obtain ⟨k', a1, a2, a3⟩ := (silL_mem n).1 mem
    exact ⟨k', a1, by rw [a2] at h2; omega, a3⟩
  · rintro ⟨k, h1, h2, h3⟩
    have mem : ((k : Int) + 1) ∈ silL lo up n := (silL_mem n).2 ⟨k, h1, rfl, h3⟩
    obtain ⟨k', b1, b2⟩ := List.getElem_of_mem mem
    refine ⟨k', b1, ?_⟩
    have e : (silL lo up n).getD k' 0 = (silL lo up n)[k'] := by simp [List.getD, b1]
    rw [e, b2, h2]
    omega
/-- Constants that are nowhere less. -/
def LeC (n : Nat) (l l' : List Int) : Prop := ∀ k, k < n → l.getD k 0 ≤ l'.getD k 0
theorem cstN_mono {n : Nat} {l l' : List Int} (h : LeC n l l') {i : Nat} (hi : i ≤ n) : cstN l i ≤ cstN l' i := by
  unfold cstN
  split
  · exact Int.le_refl _
  · have := h (i - 1) (by omega)
    omega
theorem wdP_mono {n : Nat} {lo up lo' up' : List Int} {F F' : Mat} (hF : Le n F' F) (hC : ∀ i j, i ≤ n → j ≤ n → Go.Proofs.Ytohkbjkfpnhggaa.F (F' i j)) (h1 : LeC n lo lo') (h2 : LeC n up up') : Le n (wdP lo' up' F') (wdP lo up F) := fun i j hi hj => by
  have le := hF i j hi hj
  have a := cstN_mono h1 hi
  have b := cstN_mono h2 hj
  have top := F_opn (hC i j hi hj)
  have bb : 0 ≤ cstN up' j := by unfold cstN; split <;> omega
  have ho := opn_val
  unfold wdP
  by_cases ij : i = j
  · rw [if_pos ij, if_pos ij]; exact le
  · rw [if_neg ij, if_neg ij]
    by_cases c : ¬ i = 0 ∧ 2 * cstN lo i + 1 < F i j
    · rw [if_pos c]
      split
      · exact Int.le_refl _
      · split
        · omega
        · exact top
    · rw [if_neg c, if_neg (by omega)]
      split <;> split <;> omega
/-- What LU makes of a zone, as cells. -/
theorem lu_row {n m : Nat} {lo up : List Int} {c : Row} (hn : n ≤ 8) (hm : m = (n + 1) * (n + 1)) (zc : ZC n m c) (h0 : mayE n lo = 0) (h1 : mayE n up = 0) :
    ∃ ca, ZC n m ca ∧ incB m ca c = true ∧ (c = (fun _ => 0) → ca = fun _ => 0) ∧ (∀ p, FullC n m p c → ∃ q, FullC n m q ca ∧ Le n q (wdP lo up (frS (silL lo up n) (silL lo up n).length p)) ∧ ∀ s, Cl n s → Le n s (wdP lo up (frS (silL lo up n) (silL lo up n).length p)) → Le n s q) ∧
      ∀ (w : World) (b q cap q' cap' : Nat) (ad ad' : Option Addr), ZoneAt w b n c → lo.length = q → IntsAt w (.slice ad q cap) lo → up.length = q' → IntsAt w (.slice ad' q' cap') up → OTells w n 26 #[.pointer (some ⟨b, 0, none⟩), .slice ad q cap, .slice ad' q' cap'] (some ca) := by
  obtain ⟨l1, k1⟩ := mayE_zero h0
  obtain ⟨l2, k2⟩ := mayE_zero h1
  obtain ⟨c1, z1, i1, R1, f1, p1, q1⟩ := free_rowL (l := silL lo up n) hn hm zc sil_has
  have key : ∃ ca, luO n m lo up c1 = some ca ∧ ZC n m ca ∧ incB m ca c = true ∧ (c = (fun _ => 0) → ca = fun _ => 0) ∧ (∀ p, FullC n m p c → ∃ q, FullC n m q ca ∧ Le n q (wdP lo up (frS (silL lo up n) (silL lo up n).length p)) ∧ ∀ s, Cl n s → Le n s (wdP lo up (frS (silL lo up n) (silL lo up n).length p)) → Le n s q) := by
    rcases zc with rfl | ⟨p, hp⟩
    · have := q1 rfl
      subst this
      refine ⟨fun _ => 0, by unfold luO; rw [if_pos (by decide)], .inl rfl, incB_iff.2 (.inl (by decide)), fun _ => rfl, fun p hp => ?_⟩
      have := hp.zero hm
      cases this
    · obtain ⟨e1, F1, L1⟩ := p1 p hp
      obtain ⟨q, Fq, eq, Lq, Uq, Gq⟩ := lu_math hn hm F1 k1 k2
      refine ⟨_, eq, .inr ⟨_, Fq⟩, full_inc Fq hp hm (fun i j hi hj => Int.le_trans (L1 i j hi hj) (Lq i j hi hj)), fun e => ?_, fun p' hp' => ?_⟩
      · have := hp.zero hm
        rw [e] at this
        cases this
      · have pe : ∀ i j, i ≤ n → j ≤ n → p' i j = p i j := fun i j hi hj => by rw [← hp'.pm hm hi hj, hp.pm hm hi hj]
        have fe : ∀ i j, i ≤ n → j ≤ n → frS (silL lo up n) (silL lo up n).length p' i j = frS (silL lo up n) (silL lo up n).length p i j := fun i j hi hj => by
          rw [frS_at p' _ sil_has, frS_at p _ sil_has, pe i j hi hj, pe i 0 hi (by omega)]
        have we : ∀ i j, i ≤ n → j ≤ n → wdP lo up (frS (silL lo up n) (silL lo up n).length p') i j = wdP lo up (frS (silL lo up n) (silL lo up n).length p) i j := fun i j hi hj => by
          unfold wdP
          rw [fe i j hi hj]
        exact ⟨q, Fq, fun i j hi hj => by rw [we i j hi hj]; exact Uq i j hi hj, fun s hs hl => Gq s hs fun i j hi hj => by rw [← we i j hi hj]; exact hl i j hi hj⟩
  obtain ⟨ca, e, k3, k4, k5, k6⟩ := key
  refine ⟨ca, k3, k4, k5, k6, fun w b q cap q' cap' ad ad' hz hl hv hl' hv' => ?_⟩
  rw [← e]
  exact lu_tells hn hm hz zc hl hv hl' hv' h0 h1 z1 R1 f1
theorem lu_less {n m : Nat} {lo up lo' up' : List Int} {c ca cb : Row} (hn : n ≤ 8) (hm : m = (n + 1) * (n + 1)) (zc : ZC n m c) (h1 : LeC n lo lo') (h2 : LeC n up up')
    (a1 : c = (fun _ => 0) → ca = fun _ => 0) (b1 : c = (fun _ => 0) → cb = fun _ => 0)
    (a2 : ∀ p, FullC n m p c → ∃ q, FullC n m q ca ∧ Le n q (wdP lo up (frS (silL lo up n) (silL lo up n).length p)) ∧ ∀ s, Cl n s → Le n s (wdP lo up (frS (silL lo up n) (silL lo up n).length p)) → Le n s q)
    (b2 : ∀ p, FullC n m p c → ∃ q, FullC n m q cb ∧ Le n q (wdP lo' up' (frS (silL lo' up' n) (silL lo' up' n).length p)) ∧ ∀ s, Cl n s → Le n s (wdP lo' up' (frS (silL lo' up' n) (silL lo' up' n).length p)) → Le n s q)
    (hb : ∀ k, k < n → -1 ≤ lo.getD k 0 ∧ -1 ≤ up.getD k 0) : incB m ca cb = true := by
  rcases zc with rfl | ⟨p, hp⟩
  · rw [b1 rfl]; exact incB_iff.2 (.inl (by decide))
  · obtain ⟨q, Fq, Uq, Gq⟩ := a2 p hp
    obtain ⟨q', Fq', Uq', -⟩ := b2 p hp
    have F' := (frS_full (l := silL lo' up' n) hm hp _ sil_has).1
    refine full_inc Fq Fq' hm (Gq q' Fq'.cl fun i j hi hj => Int.le_trans (Uq' i j hi hj) (wdP_mono (frS_mono hm hp sil_has sil_has fun i h => ?_) (fun i j hi hj => F'.cl.F hi hj) h1 h2 i j hi hj))
    obtain ⟨k, k1, k2, k3, k4⟩ := mem_sil.1 h
    have := h1 k k1
    have := h2 k k1
    have := hb k k1
    exact mem_sil.2 ⟨k, k1, k2, by omega, by omega⟩
def mrV (a b : List Int) (k : Nat) : Int := if k < b.length ∧ a.getD k 0 < b.getD k 0 then b.getD k 0 else a.getD k 0
def mrL (a b : List Int) (K : Nat) : List Int := (List.range K).map (mrV a b)
theorem mrL_next (a b : List Int) (K : Nat) : mrL a b (K + 1) = mrL a b K ++ [mrV a b K] := by simp [mrL, List.range_succ]
theorem mrL_len (a b : List Int) (K : Nat) : (mrL a b K).length = K := by simp [mrL]
theorem mrL_get (a b : List Int) (K k : Nat) (h : k < K) : (mrL a b K).getD k 0 = mrV a b k := by simp [mrL, List.getD, h]
theorem mrL_le (a b : List Int) (K : Nat) : LeC K a (mrL a b K) := fun k hk => by
  rw [mrL_get a b K k hk]
  unfold mrV
  split <;> omega
end Go.Proofs.Ytohkbjkfpnhggaa
