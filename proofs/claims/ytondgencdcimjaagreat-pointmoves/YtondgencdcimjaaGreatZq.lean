/-
  The document's least valuation: numbers are raised till all bounds are kept; they are the least ones.
-/
import Derived.Test.YtondgencdcimjaaGreatPl0z
import Derived.Test.YtondgencdcimjaaGreatZx
namespace Go.Proofs.YtondgencdcimjaaGreat
open Go.RowKit Go.Shelf
set_option linter.unusedVariables false
set_option maxRecDepth 100000
/-- How much is still to be raised. -/
def mS (V x : Val) : Nat → Nat
  | 0 => 0
  | k + 1 => mS V x k + (V k - x k).toNat
theorem mS_le {V x y : Val} : ∀ k, (∀ a, a < k → x a ≤ y a) → mS V y k ≤ mS V x k
  | 0, _ => Nat.le_refl _
  | k + 1, h => by
    have := mS_le (V := V) k (fun a ha => h a (by omega))
    have := h k (by omega)
    simp only [mS]
    omega
theorem mS_lt {V x y : Val} {j : Nat} : ∀ k, j < k → (∀ a, a < k → x a ≤ y a) → x j < y j → y j ≤ V j → mS V y k < mS V x k
  | 0, hj, _, _, _ => by omega
  | k + 1, hj, h, h1, h2 => by
    simp only [mS]
    by_cases e : j = k
    · subst e
      have := mS_le (V := V) j (fun a ha => h a (by omega))
      omega
    · have := mS_lt (V := V) k (by omega) (fun a ha => h a (by omega)) h1 h2
      have := h k (by omega)
      omega
theorem mS_same {V x y : Val} : ∀ k, (∀ a, a < k → x a = y a) → mS V x k = mS V y k
  | 0, _ => rfl
  | k + 1, h => by simp only [mS]; rw [mS_same k (fun a ha => h a (by omega)), h k (by omega)]
def cellI (W : World) (X : Nat) (a : Nat) : Int := match W.cell? ⟨X, a, none⟩ with | some (.int _ z) => z | _ => 0
theorem cellI_at {W : World} {X N a : Nat} {x : Val} (h : UnitsAt W X N x) (ha : a < N) : cellI W X a = x a := by
  unfold cellI
  rw [h.cell a ha]
theorem mS_world {W : World} {X N : Nat} {V x : Val} (h : UnitsAt W X N x) : mS V (cellI W X) N = mS V x N := mS_same N (fun a ha => cellI_at h ha)
/-- Numbers on their way up. -/
def Low (n : Nat) (V x : Val) : Prop := ∀ a, a ≤ n → 0 ≤ x a ∧ x a ≤ V a
/-- The bounds that have been looked at are kept. -/
def Chk (n : Nat) (c : Row) (x : Val) (I J : Nat) : Prop := ∀ i j, i ≤ n → j ≤ n → (i < I ∨ (i = I ∧ j < J)) → ¬ pW n c i j = opn → x i - x j ≤ gW (pW n c i j) ((n : Int) + 1)
structure Up (n : Nat) (c : Row) (V x0 x : Val) (mv : Bool) (I J : Nat) : Prop where
  low : Low n V x
  no : mv = false → x = x0 ∧ Chk n c x I J
  yes : mv = true → mS V x (n + 1) < mS V x0 (n + 1)
theorem Up.start {n : Nat} {c : Row} {V x0 : Val} (h : Low n V x0) : Up n c V x0 x0 false 0 0 := ⟨h, fun _ => ⟨rfl, fun i j _ _ hh => by omega⟩, fun h => by cases h⟩
theorem Up.row {n : Nat} {c : Row} {V x0 x : Val} {mv : Bool} {I J : Nat} (h : Up n c V x0 x mv I J) (hJ : n + 1 ≤ J) : Up n c V x0 x mv (I + 1) 0 :=
  ⟨h.low, fun e => ⟨(h.no e).1, fun i j hi hj hh f => (h.no e).2 i j hi hj (by omega) f⟩, h.yes⟩
theorem Up.keep {n : Nat} {c : Row} {V x0 x : Val} {mv : Bool} {I J : Nat} (h : Up n c V x0 x mv I J) (hk : ¬ pW n c I J = opn → x I - x J ≤ gW (pW n c I J) ((n : Int) + 1)) : Up n c V x0 x mv I (J + 1) :=
  ⟨h.low, fun e => ⟨(h.no e).1, fun i j hi hj hh f => by
    by_cases e' : i = I ∧ j = J
    · obtain ⟨rfl, rfl⟩ := e'
      exact hk f
    · exact (h.no e).2 i j hi hj (by omega) f⟩, h.yes⟩
theorem Up.raise {n : Nat} {c : Row} {V x0 x : Val} {mv : Bool} {I J : Nat} (hB : Best n c V) (h : Up n c V x0 x mv I J) (hI : I ≤ n) (hJ : J ≤ n) (f : ¬ pW n c I J = opn) (lt : gW (pW n c I J) ((n : Int) + 1) < x I - x J) : Up n c V x0 (updV x J (x I - gW (pW n c I J) ((n : Int) + 1))) true I (J + 1) := by
  have s := hB.sol I J hI hJ f
  have a := h.low I hI
  have b := h.low J hJ
  have up : ∀ a, a < n + 1 → x a ≤ updV x J (x I - gW (pW n c I J) ((n : Int) + 1)) a := fun a _ => by
    unfold updV
    split
    · rename_i e; subst e; omega
    · exact Int.le_refl _
  have lt2 : mS V (updV x J (x I - gW (pW n c I J) ((n : Int) + 1))) (n + 1) < mS V x (n + 1) := by
    refine mS_lt (j := J) (n + 1) (by omega) up ?_ ?_
    · unfold updV; rw [if_pos rfl]; omega
    · unfold updV; rw [if_pos rfl]; omega
  refine ⟨fun a ha => ?_, fun e => (by cases e), fun _ => ?_⟩
  · unfold updV
    split
    · rename_i e; subst e; omega
    · exact h.low a ha
  · cases mv with
    | true => have := h.yes rfl; omega
    | false => rw [← (h.no rfl).1]; exact lt2
/-- What is kept by all, and below the least, is the least. -/
theorem least_same {n : Nat} {c : Row} {V x : Val} (hB : Best n c V) (h : Low n V x) (hs : Chk n c x (n + 1) 0) : ∀ a, a ≤ n → x a = V a := fun a ha => by
  have := hB.least x (fun i j hi hj f => hs i j hi hj (by omega) f) (fun a ha => (h a ha).1) a ha
  have := (h a ha).2
  omega
end Go.Proofs.YtondgencdcimjaaGreat

/-
  The document's Least.
-/
namespace Go.Proofs.YtondgencdcimjaaGreat
open Go.RowKit Go.Shelf
set_option linter.unusedVariables false
set_option maxRecDepth 100000
theorem rleast_nil (w : World) : Calls Tryz.prog 22 #[.pointer none] w fun e w' => e = .returned (.tuple #[.slice none 0 0, .int .i64 1]) ∧ Below w.heap.size w w' := by
  go_enter Tryz.func22, Tryz.ntmps22
  go_wp2_with fail
  go_ret2
  exact ⟨rfl, Below.refl _ _⟩
theorem rleast_empty (B b n m : Nat) (c : Row) (w : World) (hz : RZone w B b n (listOf c m)) (hm : 0 < m) (h : ¬ c 0 = 1) : Calls Tryz.prog 22 #[.pointer (some ⟨b, 0, none⟩)] w fun e w' => e = .returned (.tuple #[.slice none 0 0, .int .i64 14]) ∧ Below w.heap.size w w' := by
  have HE := rempty_any hz (by rw [listOf_len]; exact hm)
  rw [listOf_get _ _ _ hm] at HE
  have e : (c 0 != 1) = true := by simpa using h
  rw [e] at HE
  have HE := hideD HE
  clear hz h e
  go_enter Tryz.func22, Tryz.ntmps22
  go_wp2_with fail
  refine HE.out.mono ?_
  rintro e w1 ⟨rfl, e1⟩
  obtain rfl := e1.symm
  go_wp2_with fail
  go_ret2
  exact ⟨rfl, Below.refl _ _⟩
/-- A cell in memory, as it is asked for. -/
theorem rcell_z {w : World} {B b n m : Nat} {c : Row} (hn : n ≤ 8) (hm : m = (n + 1) * (n + 1)) (hz : RZone w B b n (listOf c m)) (i j : Nat) (hi : i ≤ n) (hj : j ≤ n) :
    Calls Tryz.prog 76 #[.pointer (some ⟨b, 0, none⟩), .int .i64 i, .int .i64 j] w fun e w' => e = .returned (.tuple #[.int .i32 (c (i * (n + 1) + j)), .int .i64 0]) ∧ Below w.heap.size w w' := by
  obtain ⟨g, cap, h0, h1, -, -, h4⟩ := hz
  have lt : i * (n + 1) + j < m := by rw [hm]; exact pos_lt hi hj
  have h4 := h4 (i * (n + 1) + j) (by rw [listOf_len]; exact lt)
  rw [listOf_get _ _ _ lt, Nat.zero_add] at h4
  rw [listOf_len] at h1
  exact rcell_in b g n i j m cap _ w hn hi hj hm h0 h1 h4
theorem valV_bd6 (b : Int) : -268435456 ≤ valV b ∧ valV b ≤ 268435456 := by
  unfold valV
  split
  · rename_i h
    simp only [finB, decide_eq_true_eq] at h
    omega
  · omega
def bitOf : Value → Nat
  | .bool true => 1
  | _ => 0
set_option maxHeartbeats 4000000 in
theorem rleast_any (B b n m : Nat) (c : Row) (V : Val) (w : World) (hn : n ≤ 8) (hm : m = (n + 1) * (n + 1)) (hz : RZone w B b n (listOf c m)) (hc : ∀ k, rightB (c k) = true) (h : c 0 = 1) (hB : Best n c V) (h0 : ∀ k, k < n → (newT (V (k + 1)) ((n : Int) + 1)).2.2 = 0) :
    Calls Tryz.prog 22 #[.pointer (some ⟨b, 0, none⟩)] w fun e w' => (∃ ad cap', e = .returned (.tuple #[.slice ad n cap', .int .i64 0]) ∧ (ad = none → n = 0 ∧ cap' = 0) ∧ RatV w' ad (gridL n (fun k => V (k + 1)) ((n : Int) + 1)) ∧ NewAt w' w.heap.size ad n cap') ∧ Below w.heap.size w w' := by
  have HE := rempty_any hz (by rw [listOf_len, hm]; exact Nat.mul_pos (by omega) (by omega))
  rw [listOf_get _ _ _ (by rw [hm]; exact Nat.mul_pos (by omega) (by omega)), h] at HE
  have HE := hideD HE
  have HD := hideD (rdim_any hz)
  obtain ⟨N, hN⟩ : ∃ N, N = n + 1 := ⟨_, rfl⟩
  have HC := hideD (fun W (hb : Below w.heap.size w W) i j hi hj => rcell_z hn hm (hz.past hb) i j hi hj)
  have HV := hideD (fun k W => rvalue_any (c k) W (by have := hc k; unfold rightB at this; simp at this; omega) (by have := hc k; unfold rightB at this; simp at this; omega))
  have hmk := make_units N (by omega) w
  have HU := hideD (UnitsAt.new w N)
  have Bm := hideD (single w (.cells (madeCells #[.int .i64 0] (N * 1)) 2))
  have HBest := hideD hB
  have HCR := hideD hc
  have H0 := hideD h0
  have eN : (N : Int) = (n : Int) + 1 := by omega
  have n8 : (n : Int) ≤ 8 := by omega
  have Hn := hideD hn
  have HN := hideD hN
  rw [eN] at hmk
  clear hz hc h hB h0 hm
  go_enter Tryz.func22, Tryz.ntmps22
  go_wp2_with fail
  refine HE.out.mono ?_
  rintro e w1 ⟨rfl, e1⟩
  obtain rfl := e1.symm
  clear HE e1
  go_wp2_with fail
  refine HD.out.mono ?_
  rintro e w1 ⟨rfl, e1⟩
  obtain rfl := e1.symm
  clear HD e1
  go_wp2_with fail
  have hU : UnitsAt (w.alloc (.cells (madeCells #[.int .i64 0] (n + 1)) 2)) w.heap.size (n + 1) (fun _ => 0) := by
    have := UnitsAt.new w (n + 1)
    rw [Nat.mul_one] at this
    exact this
  have B0 := single w (.cells (madeCells #[.int .i64 0] (n + 1)) 2)
  clear hmk HU Bm eN HN hN
  generalize w.alloc (.cells (madeCells #[.int .i64 0] (n + 1)) 2) = W0 at *
  obtain ⟨X, hX⟩ : ∃ X, X = w.heap.size := ⟨_, rfl⟩
  rw [← hX] at hU
  rw [← hX]
  have HX := hideD hX
  have HU := hideD hU
  have HB0 := hideD B0
  clear hU B0 hX N
  go_loopw [7] (fun s wr => ∃ (x : Val) (mv : Bool), s = .bool mv ∧ Hid (UnitsAt wr X (n + 1) x) ∧ Hid (Low n V x ∧ (mv = false → Chk n c x (n + 1) 0)) ∧ Hid (Below w.heap.size w wr)) (fun s wq => 2 * mS V (cellI wq X) (n + 1) + bitOf s)
  case atStart => exact ⟨fun _ => 0, true, rfl, HU, ⟨fun a ha => ⟨Int.le_refl _, HBest.out.nn a ha⟩, fun h => by cases h⟩, HB0⟩
  case round =>
    obtain ⟨x, mv, rfl, U, L, Bw⟩ := hrel
    clear HU HB0
    cases mv with
    | true =>
      obtain ⟨wb, hwb⟩ : ∃ wb, wb = wr := ⟨_, rfl⟩
      rw [← hwb] at U Bw ⊢
      clear hwb wr
      go_wp2_with fail
      go_loopw [7, 8] (fun s i wq => ∃ (I : Nat) (y : Val) (mv : Bool), I ≤ n + 1 ∧ s = .bool mv ∧ i = .int .i64 (I : Int) ∧ Hid (UnitsAt wq X (n + 1) y) ∧ Hid (Up n c V x y mv I 0) ∧ Hid (Below w.heap.size w wq)) (fun _ i _ => n + 1 - (intOf i).toNat)
      case atStart => exact ⟨0, x, false, Nat.zero_le _, rfl, rfl, U, Up.start L.out.1, Bw⟩
      case round =>
        obtain ⟨I, y, mv, hI, rfl, rfl, U2, P2, B2⟩ := hrel
        by_cases ci : I ≤ n
        · have i0 : (I : Int) ≤ (n : Int) := by omega
          have i1 : (0 : Int) ≤ (I : Int) := by omega
          obtain ⟨wd, hwd⟩ : ∃ wd, wd = wr := ⟨_, rfl⟩
          rw [← hwd] at U2 B2 ⊢
          clear hwd wr
          go_wp2_with fail
          go_loopw [7, 9] (fun s j wq => ∃ (J : Nat) (y : Val) (mv : Bool), J ≤ n + 1 ∧ s = .bool mv ∧ j = .int .i64 (J : Int) ∧ Hid (UnitsAt wq X (n + 1) y) ∧ Hid (Up n c V x y mv I J) ∧ Hid (Below w.heap.size w wq)) (fun _ j _ => n + 1 - (intOf j).toNat)
          case atStart => exact ⟨0, y, mv, Nat.zero_le _, rfl, rfl, U2, P2, B2⟩
          case round =>
            clear P2 U2 B2
            obtain ⟨J, z, mz, hJ, rfl, rfl, U3, P3, B3⟩ := hrel
            by_cases cj : J ≤ n
            · have j0 : (J : Int) ≤ (n : Int) := by omega
              have j1 : (0 : Int) ≤ (J : Int) := by omega
              have HC1 := hideD (HC.out wr B3.out I J ci cj)
              have Hk := hideD (HCR.out (I * (n + 1) + J))
              have HV1 := hideD (HV.out (I * (n + 1) + J))
              have ep : Hid (pW n c I J = if c (I * (n + 1) + J) = 2147483647 then opn else c (I * (n + 1) + J)) := rfl
              generalize c (I * (n + 1) + J) = bb at HC1 Hk HV1 ep
              go_wp2_with fail
              refine HC1.out.mono ?_
              rintro e w1 ⟨rfl, hb⟩
              have U4 := hideD (U3.out.past hb)
              have B4 := hideD (beyondD B3.out hb)
              clear hb HC1 U3 B3
              go_wp2_with fail
              refine (HV1.out _).mono ?_
              rintro e w2 ⟨rfl, e2⟩
              obtain rfl := e2.symm
              clear e2 HV1
              by_cases fb : finB bb = true
              · have hnb : ¬ bb = 2147483647 := fun e => by rw [e] at fb; exact absurd fb (by decide)
                have ep1 : pW n c I J = bb := by rw [ep.out, if_neg hnb]
                have fp : ¬ pW n c I J = opn := by
                  rw [ep1]
                  intro e
                  have := opn_val
                  simp only [finB, decide_eq_true_eq] at fb
                  omega
                have vb := valV_bd6 bb
                have pb := mul_bd (V := valV bb) (g := (n : Int) + 1) vb.1 vb.2 (by omega) (by omega)
                have eg : gW bb ((n : Int) + 1) = valV bb * ((n : Int) + 1) - (if valR bb = true then 0 else 1) := by
                  unfold gW valR valV
                  rw [fb]
                  simp
                rw [ep1] at fp
                have lI := P3.out.low I ci
                have lJ := P3.out.low J cj
                have bI := HBest.out.le I ci
                have bJ := HBest.out.le J cj
                have cI := U4.out.cell I (by omega)
                have cJ := U4.out.cell J (by omega)
                have fJ := U4.out.frozen J
                have nk : Hid (z I - z J ≤ gW bb ((n : Int) + 1) → Up n c V x z mz I (J + 1)) := fun h => P3.out.keep (fun _ => by rw [ep1]; exact h)
                have nr : Hid (gW bb ((n : Int) + 1) < z I - z J → Up n c V x (updV z J (z I - gW bb ((n : Int) + 1))) true I (J + 1)) := fun h => by
                  have := P3.out.raise HBest.out ci cj (by rw [ep1]; exact fp) (by rw [ep1]; exact h)
                  rw [ep1] at this
                  exact this
                have nu : Hid (∀ W v, Below w1.heap.size w1 W → UnitsAt (W.setCell ⟨X, J, none⟩ (.int .i64 v)) X (n + 1) (updV z J v)) := fun W v hb => (U4.out.past hb).set J (by omega) v
                have nb : Hid (∀ W v, Below w1.heap.size w1 W → Below w.heap.size w (W.setCell ⟨X, J, none⟩ (.int .i64 v))) := fun W v hb => Below.setCell (p := ⟨X, J, none⟩) (beyondD B4.out hb) (by rw [HX.out]; exact Nat.le_refl _) _
                rw [eg] at nk nr
                clear eg ep ep1 fp hnb vb Hk P3
                generalize valV bb = vv at *
                obtain ⟨pp, hpp⟩ : ∃ pp, pp = vv * ((n : Int) + 1) := ⟨_, rfl⟩
                rw [← hpp] at pb nk nr
                have ew : wrap64 (vv * ((n : Int) + 1)) = pp := by rw [← hpp]; unfold wrap64; omega
                clear hpp
                rw [fb]
                clear fb
                cases rb : valR bb with
                | true =>
                  rw [rb] at nk nr
                  simp only [if_true, Int.sub_zero] at nk nr
                  clear rb
                  by_cases gt : z I - z J > pp
                  · have nr2 := hideD (nr.out (by omega))
                    clear nr nk
                    generalize z I = zi at *
                    generalize z J = zj at *
                    go_wp2_with fail
                    rw [ew]
                    go_quiet (fail)
                    go_wp2_with fail
                    go_roundw
                    case rel => exact ⟨J + 1, _, true, by omega, rfl, by go_num, nu.out _ _ (below_draw _ _), nr2, nb.out _ _ (below_draw _ _)⟩
                    case measure => simp [intOf]; omega
                  · have nk2 := hideD (nk.out (by omega))
                    clear nr nk
                    generalize z I = zi at *
                    generalize z J = zj at *
                    go_wp2_with fail
                    rw [ew]
                    go_quiet (fail)
                    go_wp2_with fail
                    go_roundw
                    case rel => exact ⟨J + 1, z, mz, by omega, rfl, by go_num, hideD (U4.out.past (below_draw _ _)), nk2, hideD (beyondD B4.out (below_draw _ _))⟩
                    case measure => simp [intOf]; omega
                | false =>
                  rw [rb] at nk nr
                  simp only [Bool.false_eq_true, if_false] at nk nr
                  clear rb
                  by_cases gt : z I - z J > pp - 1
                  · have nr2 := hideD (nr.out (by omega))
                    clear nr nk
                    generalize z I = zi at *
                    generalize z J = zj at *
                    go_wp2_with fail
                    rw [ew]
                    go_quiet (fail)
                    go_wp2_with fail
                    go_roundw
                    case rel => exact ⟨J + 1, _, true, by omega, rfl, by go_num, nu.out _ _ (below_draw _ _), nr2, nb.out _ _ (below_draw _ _)⟩
                    case measure => simp [intOf]; omega
                  · have nk2 := hideD (nk.out (by omega))
                    clear nr nk
                    generalize z I = zi at *
                    generalize z J = zj at *
                    go_wp2_with fail
                    rw [ew]
                    go_quiet (fail)
                    go_wp2_with fail
                    go_roundw
                    case rel => exact ⟨J + 1, z, mz, by omega, rfl, by go_num, hideD (U4.out.past (below_draw _ _)), nk2, hideD (beyondD B4.out (below_draw _ _))⟩
                    case measure => simp [intOf]; omega
              · have fb' : finB bb = false := by simpa using fb
                have e1 : bb = 2147483647 := by
                  have := Hk.out
                  simp only [finB, rightB, decide_eq_true_eq] at *
                  omega
                have nx := hideD (P3.out.keep (fun f => absurd (by rw [ep.out, if_pos e1]) f))
                rw [fb']
                clear fb fb' e1 Hk ep P3
                generalize valV bb = vv
                generalize valR bb = vr
                go_wp2_with fail
                go_roundw
                case rel => exact ⟨J + 1, z, mz, by omega, rfl, by go_num, U4, nx, B4⟩
                case measure => simp [intOf]; omega
            · have j0 : ¬ (J : Int) ≤ (n : Int) := by omega
              have nx := hideD (P3.out.row (by omega))
              clear P3
              go_wp2_with fail
              go_roundw
              case rel => exact ⟨I + 1, z, mz, by omega, rfl, by go_num, U3, nx, B3⟩
              case measure => simp [intOf]; omega
        · have i0 : ¬ (I : Int) ≤ (n : Int) := by omega
          have eI : I = n + 1 := by omega
          have up := P2.out
          rw [eI] at up
          have ms : Hid (2 * mS V (cellI wr X) (n + 1) + bitOf (.bool mv) < 2 * mS V (cellI wb X) (n + 1) + bitOf (.bool true)) := by
            show _ < _
            rw [mS_world U2.out, mS_world U.out]
            cases mv with
            | true => have := up.yes rfl; simp [bitOf]; omega
            | false => rw [(up.no rfl).1]; simp [bitOf]
          have nx : Hid (Low n V y ∧ (mv = false → Chk n c y (n + 1) 0)) := ⟨up.low, fun e => (up.no e).2⟩
          clear up P2 eI
          go_wp2_with fail
          go_roundw
          case rel => exact ⟨y, mv, rfl, U2, nx, B2⟩
          case measure => exact ms.out
    | false =>
      have fin := least_same HBest.out L.out.1 (L.out.2 rfl)
      have HF := hideD fin
      clear fin L
      obtain ⟨i0, hi, hz0, hz1, hz2⟩ := info_parts info_rat
      obtain ⟨wb, hwb⟩ : ∃ wb, wb = wr := ⟨_, rfl⟩
      rw [← hwb] at U Bw ⊢
      clear hwb wr
      have IV : Hid (∀ k, k ≤ n → I64 (x k)) := fun k hk => by
        have a := HBest.out.nn k hk
        have b := HBest.out.le k hk
        have e := HF.out k hk
        exact ⟨by omega, by omega⟩
      go_wp2_with fail
      go_loopw [16, 17] (fun o s wq => ∃ (K J : Nat) (v : Value), K ≤ n ∧ J = K + 1 ∧ o = v ∧ s = .int .i64 (J : Int) ∧ Hid (wq.ownsRow wb.heap.size 24 2 v K (ratCk (gridL n (fun k => x (k + 1)) ((n : Int) + 1)) K)) ∧ Hid (Below wb.heap.size wb wq)) (fun _ s _ => n + 1 - (intOf s).toNat)
      case atStart => exact ⟨0, 1, _, Nat.zero_le _, rfl, rfl, rfl, World.ownsRow_nil _ _ _ _, Below.refl _ _⟩
      case round =>
        obtain ⟨K, J, v, hK, eJ, hv, rfl, O, Bb⟩ := hrel
        replace hv := hv.symm
        subst hv
        by_cases ck : K < n
        · have j0 : (J : Int) ≤ (n : Int) := by omega
          have j1 : (0 : Int) ≤ (J : Int) := by omega
          have j2 : (J : Int) < (n : Int) + 1 := by omega
          have cJ := kc _ _ Bb.out (U.out.cell J (by omega))
          have HL := hideD (fun W => xnew_any (x J) ((n : Int) + 1) W (IV.out J (by omega)) ⟨by omega, by omega⟩)
          have RN : Hid (ratCk (gridL n (fun k => x (k + 1)) ((n : Int) + 1)) (K + 1) = ratCk (gridL n (fun k => x (k + 1)) ((n : Int) + 1)) K ++ [.int .i64 (newT (x J) ((n : Int) + 1)).1, .int .i64 (newT (x J) ((n : Int) + 1)).2.1]) := by rw [eJ]; exact ratCk_next _ K
          have EJ := hideD eJ
          clear eJ
          generalize newT (x J) ((n : Int) + 1) = t at *
          obtain ⟨t0, t1, t2⟩ := t
          generalize x J = xj at *
          go_wp2_with fail
          refine (HL.out _).mono ?_
          rintro e w1 ⟨rfl, hb⟩
          have O1 : w1.ownsRow wb.heap.size 24 2 v K (ratCk (gridL n (fun k => x (k + 1)) ((n : Int) + 1)) K) := World.ownsRow.kept O.out (grown_below hb (Nat.le_refl _)) (by cases v.ownBlock <;> simp)
          have B1 := hideR (beyond Bb.out hb)
          clear hb HL cJ
          go_wp2_with (at_builtin; refine wp_app_any _ rfl _ _ 22 rfl wb.heap.size 24 i0 (.agg #[.int .i64 0, .int .i64 0]) 2 16 Tryz.underlying22 hi hz0 hz1 hz2 rfl (by decide) _ K _ rfl ((O1.alloc _).alloc _) _ 1 1 [.int .i64 t0, .int .i64 t1] rfl (fun e => by cases e) rfl (fun d e j u h => two_news _ _ _ _ d (by rw [← e]; simp) j u h) (by simp [Value.oneCell']) (by unfold maxLen; omega) (by omega) (by have := B1.out.size; simp; omega) ?_; intro v' w2 hown hgrow)
          have T2 := two w1 (.cells #[.int .i64 t0, .int .i64 t1] 24) (.cells #[.int .i64 t0, .int .i64 t1] 24)
          have B2 : Hid (Below wb.heap.size wb w2) := by
            have h2 := beyond B1.out T2
            rcases hgrow with e | hg
            · rw [e]; exact h2
            · exact h2.grown hg h2.size (fun k hk => own_ge O1 k hk)
          have O2 : Hid (w2.ownsRow wb.heap.size 24 2 v' (K + 1) (ratCk (gridL n (fun k => x (k + 1)) ((n : Int) + 1)) (K + 1))) := by
            show w2.ownsRow _ _ _ _ _ _
            rw [RN.out]
            exact hown
          clear hown hgrow O1 B1 O Bb RN T2
          go_wp2_with fail
          go_roundw
          case rel => exact ⟨K + 1, J + 1, v', by omega, by rw [EJ.out], rfl, by go_num, O2, B2⟩
          case measure => simp [intOf]; omega
        · have eK : K = n := by omega
          have j0 : ¬ (J : Int) ≤ (n : Int) := by omega
          have O2 := O.out
          rw [eK] at O2
          obtain ⟨ad2, cap2, rfl, h1, h2, h3⟩ := own_ratV (n := n) (L := gridL n (fun k => x (k + 1)) ((n : Int) + 1)) rfl O2
          have HH : Hid ((ad2 = none → n = 0 ∧ cap2 = 0) ∧ RatV wr ad2 (gridL n (fun k => V (k + 1)) ((n : Int) + 1)) ∧ NewAt wr w.heap.size ad2 n cap2) := ⟨h1, fun k hk => by
            have := h2 k hk
            have e : x (k + 1) = V (k + 1) := HF.out (k + 1) (by have : k < n := hk; omega)
            show ∃ b off, ad2 = some ⟨b, off, none⟩ ∧ wr.cell? ⟨b, off + k * 2, none⟩ = some (.int .i64 (newT (V (k + 1)) ((n : Int) + 1)).1) ∧ wr.cell? ⟨b, off + k * 2 + 1, none⟩ = some (.int .i64 (newT (V (k + 1)) ((n : Int) + 1)).2.1)
            rw [← e]
            exact this, h3.mono Bw.out.size⟩
          have BB := hideD (beyondD Bw.out Bb.out)
          clear O O2 eK h1 h2 h3 Bb
          go_wp2_with fail
          go_ret2
          exact ⟨⟨ad2, cap2, rfl, HH.out.1, HH.out.2.1, HH.out.2.2⟩, BB.out⟩
end Go.Proofs.YtondgencdcimjaaGreat
