/-
  The contract of ops.Constrain.
-/
import Derived.Test.YtjanibholjimkaaQ24
import Derived.Test.YtjanibholjimkaaQ27
namespace Go.Proofs.Ytjanibholjimkaa
open Go.RowKit
set_option linter.unusedVariables false
set_option maxRecDepth 100000
def bndB (n : Nat) (L : Lims) (k : Nat) : Bool := decide (0 ≤ L.i k ∧ L.i k ≤ n ∧ 0 ≤ L.j k ∧ L.j k ≤ n)
def bndA (n : Nat) (L : Lims) : Nat → Bool
  | 0 => true
  | k + 1 => bndA n L k && bndB n L k
def rgtA (L : Lims) : Nat → Bool
  | 0 => true
  | k + 1 => rgtA L k && rightB (L.b k)
theorem bndA_false {n : Nat} {L : Lims} : ∀ {k : Nat} (m : Nat), k ≤ m → bndA n L k = false → bndA n L m = false := by
  intro k m h e
  induction m with
  | zero => obtain rfl : k = 0 := by omega
            exact e
  | succ m ih =>
    by_cases q : k = m + 1
    · subst q; exact e
    · simp [bndA, ih (by omega)]
theorem bndA_at {n : Nat} {L : Lims} {m : Nat} (h : bndA n L m = true) (k : Nat) (hk : k < m) : bndB n L k = true := by
  induction m with
  | zero => omega
  | succ m ih =>
    simp only [bndA, Bool.and_eq_true] at h
    by_cases q : k = m
    · subst q
      exact h.2
    · exact ih h.1 (by omega)
theorem rgtA_false {L : Lims} : ∀ {k : Nat} (m : Nat), k ≤ m → rgtA L k = false → rgtA L m = false := by
  intro k m h e
  induction m with
  | zero => obtain rfl : k = 0 := by omega
            exact e
  | succ m ih =>
    by_cases q : k = m + 1
    · subst q; exact e
    · simp [rgtA, ih (by omega)]
def limK (L : Lims) : Nat → Mat → Mat
  | 0, r => r
  | k + 1, r => limM (limK L k r) (L.i k).toNat (L.j k).toNat (L.b k)
theorem limK_32 {L : Lims} {r : Mat} (h : R32 r) : ∀ (K : Nat), (∀ k, k < K → -2147483648 ≤ L.b k) → R32 (limK L K r)
  | 0, _ => h
  | K + 1, hb => limM_32 (limK_32 h K fun k hk => hb k (by omega)) (hb K (by omega))
/-- What Constrain tells: an error, or the draft's zone. -/
def ConOut (w' : World) (B n : Nat) (e : Ending) (L : Lims) (r : Mat) : Prop :=
  (bndA n L L.q = false ∧ e = errOf 12) ∨ (bndA n L L.q = true ∧ rgtA L L.q = false ∧ e = errOf 2) ∨ (bndA n L L.q = true ∧ rgtA L L.q = true ∧ OpsOut w' B n e (limK L L.q r))
set_option maxHeartbeats 4000000 in
theorem con_main (b n cb off cap : Nat) (c : Row) (L : Lims) (w : World) (h : n ≤ 8) (hz : ZoneAt w b n c) (hc : C32 c) (hR : LimRow w cb off L) (hcb : cb < w.heap.size) (hi : ∀ k, k < L.q → -2147483648 ≤ L.b k ∧ L.b k ≤ 2147483647) (hq : L.q ≤ 9223372036854775807) :
    Calls Try.prog 13 #[.pointer (some ⟨b, 0, none⟩), .slice (some ⟨cb, off, none⟩) L.q cap] w fun e w' => ConOut w' w.heap.size n e L (oR n c ((n + 1) * (n + 1))) ∧ Below w.heap.size w w' := by
  have HD := hideD (odraft_any b n c w h hz)
  have H32 := hideD (oR_32 (n := n) (K := (n + 1) * (n + 1)) hc)
  generalize oR n c ((n + 1) * (n + 1)) = r at *
  have HR := hideD hR
  have HI := hideD hi
  have HB : Hid (∀ (i j x : Int) w, _) := fun i j x w => bounds_any n i j x w
  have HL : Hid (∀ (d i j : Nat) (x : Int) r w, i ≤ 8 → j ≤ 8 → ODraft w d n r → _) := fun d i j x r w i8 j8 hD => limit_any d n i j x r w i8 j8 hD
  have HG : Hid (∀ (x : Int) w, _) := fun x w => right_any x w
  have HF1 : Hid (∀ w' e, bndA n L L.q = false → e = errOf 12 → ConOut w' w.heap.size n e L r) := fun w' e h1 h2 => .inl ⟨h1, h2⟩
  have HF2 : Hid (∀ w' e, bndA n L L.q = true → rgtA L L.q = false → e = errOf 2 → ConOut w' w.heap.size n e L r) := fun w' e h1 h2 h3 => .inr (.inl ⟨h1, h2, h3⟩)
  have HF3 : Hid (∀ w' e, bndA n L L.q = true → rgtA L L.q = true → OpsOut w' w.heap.size n e (limK L L.q r) → ConOut w' w.heap.size n e L r) := fun w' e h1 h2 h3 => .inr (.inr ⟨h1, h2, h3⟩)
  clear hz hc hR hi
  have HQ : Hid (L.q = L.q) := rfl
  generalize eq : L.q = q at *
  have EQ := hideD eq
  clear eq HQ
  have q1 : (q : Int) ≤ 9223372036854775807 := by omega
  go_enter Try.func13, Try.ntmps13
  go_wp2_with fail
  refine HD.out.mono ?_
  rintro e w1 ⟨⟨d, rfl, hd, hD⟩, hb⟩
  have hD1 := hideD hD
  have hB1 := hideD hb
  clear hD hb HD
  go_wp2_with fail
  go_loopw [17] (fun s wr => ∃ (K : Nat), K ≤ q ∧ s = .int .i64 (K : Int) ∧ Hid (bndA n L K = true) ∧ Hid (ODraft wr d n r) ∧ Hid (Below w.heap.size w wr)) (fun s _ => q - (intOf s).toNat)
  case atStart => exact ⟨0, by omega, rfl, rfl, hD1, hB1⟩
  case round =>
    obtain ⟨K, hK, rfl, hA, hD, hB⟩ := hrel
    clear hD1 hB1
    by_cases ck : K < q
    · have k0 : (0 : Int) ≤ (K : Int) := by omega
      have k1 : (K : Int) < (q : Int) := by omega
      obtain ⟨c0, c1, c2⟩ := (HR.out.later hB.out hcb) K (by have := EQ.out; omega)
      have st : Hid (bndA n L (K + 1) = bndB n L K) := by show _ = _; simp [bndA, hA.out]
      have st2 : Hid (bndB n L K = decide (0 ≤ L.i K ∧ L.i K ≤ n ∧ 0 ≤ L.j K ∧ L.j K ≤ n)) := rfl
      generalize L.i K = x at *
      generalize L.j K = y at *
      generalize L.b K = z at *
      have q0 := hD.out.clocks
      have B5 := hideD (below_one wr (.cells #[.int .i64 x, .int .i64 y, .int .i32 z] 43))
      go_upto_region 7 with (fail)
      have c3 : (wr.alloc (.cells #[.int .i64 x, .int .i64 y, .int .i32 z] 43)).cell? ⟨wr.heap.size, 0, none⟩ = some (.int .i64 x) := by simp [go_sem]
      have c4 : (wr.alloc (.cells #[.int .i64 x, .int .i64 y, .int .i32 z] 43)).cell? ⟨wr.heap.size, 1, none⟩ = some (.int .i64 y) := by simp [go_sem]
      have c5 : (wr.alloc (.cells #[.int .i64 x, .int .i64 y, .int .i32 z] 43)).cell? ⟨wr.heap.size, 2, none⟩ = some (.int .i32 z) := by simp [go_sem]
      have q2 := kc ⟨d, 0, none⟩ _ B5.out q0
      have hD5 := hideD (hD.out.past B5.out)
      have hB5 := hideD (beyondD hB.out B5.out)
      have HBK := hideD (fun w => HB.out x y z w)
      generalize wr.alloc (.cells #[.int .i64 x, .int .i64 y, .int .i32 z] 43) = w5 at *
      generalize wr.heap.size = bx at *
      clear hD hB q0 B5 c0 c1 c2
      have B6 := Below.refl w5.heap.size w5
      cases ct : decide (0 ≤ x ∧ x ≤ (n : Int) ∧ 0 ≤ y ∧ y ≤ (n : Int)) with
      | false =>
        rw [ct] at HBK st2
        have st3 : Hid (bndA n L q = false) := bndA_false (k := K + 1) q (by omega) (by rw [st.out, st2.out])
        clear st st2
        go_region_held3 (fun w2 => w2.cell? ⟨d, 0, none⟩ = some (.int .i64 n) ∧ w2.cell? ⟨bx, 0, none⟩ = some (.int .i64 x) ∧ w2.cell? ⟨bx, 1, none⟩ = some (.int .i64 y) ∧ w2.cell? ⟨bx, 2, none⟩ = some (.int .i32 z))
          (first | (refine ⟨?_, ?_, ?_, ?_⟩ <;> with_reducible assumption) | go_keep)
          (first | (go_at_call 34; refine (HBK.out _).mono ?_; rintro e' w6 ⟨rfl, hb⟩; have s0 := kc ⟨d, 0, none⟩ _ hb (by first | assumption | simp [go_sem, *]); have s1 := kc ⟨bx, 0, none⟩ _ hb (by first | assumption | simp [go_sem, *]); have s2 := kc ⟨bx, 1, none⟩ _ hb (by first | assumption | simp [go_sem, *]); have s3 := kc ⟨bx, 2, none⟩ _ hb (by first | assumption | simp [go_sem, *]); have s4 := beyondD (w := w5) (by first | assumption | (apply Below.drew; assumption)) hb))
        all_goals
          go_wp2_with fail
          exact bodyPost_ret (v := .tuple #[.pointer none, .int .i64 12]) (by simp [results, Try.results13, go_sem]) rfl ⟨HF1.out _ _ st3.out rfl, beyondD hB5.out s4⟩
      | true =>
        rw [ct] at HBK st2
        have st3 : Hid (bndA n L (K + 1) = true) := st.out.trans st2.out
        clear st st2
        go_region_held3 (fun w2 => w2.cell? ⟨d, 0, none⟩ = some (.int .i64 n) ∧ w2.cell? ⟨bx, 0, none⟩ = some (.int .i64 x) ∧ w2.cell? ⟨bx, 1, none⟩ = some (.int .i64 y) ∧ w2.cell? ⟨bx, 2, none⟩ = some (.int .i32 z))
          (first | (refine ⟨?_, ?_, ?_, ?_⟩ <;> with_reducible assumption) | go_keep)
          (first | (go_at_call 34; refine (HBK.out _).mono ?_; rintro e' w6 ⟨rfl, hb⟩; have s0 := kc ⟨d, 0, none⟩ _ hb (by first | assumption | simp [go_sem, *]); have s1 := kc ⟨bx, 0, none⟩ _ hb (by first | assumption | simp [go_sem, *]); have s2 := kc ⟨bx, 1, none⟩ _ hb (by first | assumption | simp [go_sem, *]); have s3 := kc ⟨bx, 2, none⟩ _ hb (by first | assumption | simp [go_sem, *]); have s4 := beyondD (w := w5) (by first | assumption | (apply Below.drew; assumption)) hb))
        all_goals
          have hD7 := hideD (hD5.out.past s4)
          have hB7 := hideD (beyondD hB5.out s4)
          clear hb s0 s1 s2 s3 s4 hD5 hB5 B6 q2 c3 c4 c5
          go_wp2_with fail
          go_roundw
          case rel => exact ⟨K + 1, by omega, by go_num, st3, hD7, hB7⟩
          case measure => simp [intOf]; omega
    · have eK : K = q := by omega
      have hA' : Hid (bndA n L q = true) := by rw [← eK]; exact hA
      clear hA eK
      go_wp2_with fail
      go_loopw [31] (fun s wr => ∃ (K : Nat), K ≤ q ∧ s = .int .i64 (K : Int) ∧ Hid (rgtA L K = true) ∧ Hid (ODraft wr d n (limK L K r)) ∧ Hid (Below w.heap.size w wr)) (fun s _ => q - (intOf s).toNat)
      case atStart => exact ⟨0, by omega, rfl, rfl, hD, hB⟩
      case round =>
        obtain ⟨J, hJ, rfl, hG, hD, hB⟩ := hrel
        by_cases cj : J < q
        · have k0 : (0 : Int) ≤ (J : Int) := by omega
          have k1 : (J : Int) < (q : Int) := by omega
          obtain ⟨c0, c1, c2⟩ := (HR.out.later hB.out hcb) J (by have := EQ.out; omega)
          have st : Hid (rgtA L (J + 1) = rightB (L.b J)) := by show _ = _; simp [rgtA, hG.out]
          have nx : Hid (limK L (J + 1) r = limM (limK L J r) (L.i J).toNat (L.j J).toNat (L.b J)) := rfl
          have bb := bndA_at hA'.out J cj
          simp only [bndB, decide_eq_true_eq] at bb
          obtain ⟨x, hx⟩ := Int.eq_ofNat_of_zero_le bb.1
          obtain ⟨y, hy⟩ := Int.eq_ofNat_of_zero_le bb.2.2.1
          have x8 : x ≤ 8 := by omega
          have y8 : y ≤ 8 := by omega
          rw [hx] at c0 nx
          rw [hy] at c1 nx
          clear bb hx hy
          generalize L.b J = z at *
          have HGJ := hideD (fun w => HG.out z w)
          have B5 := hideD (below_one wr (.cells #[.int .i64 x, .int .i64 y, .int .i32 z] 43))
          have hD5 := hideD (hD.out.past B5.out)
          have hB5 := hideD (beyondD hB.out B5.out)
          clear hD hB B5
          cases cr : rightB z with
          | false =>
            rw [cr] at HGJ st
            have st3 : Hid (rgtA L q = false) := rgtA_false (k := J + 1) q (by omega) st.out
            clear st
            go_wp2_with fail
            refine (HGJ.out _).mono ?_
            rintro e w6 ⟨rfl, rfl⟩
            go_wp2_with fail
            exact bodyPost_ret (v := .tuple #[.pointer none, .int .i64 2]) (by simp [results, Try.results13, go_sem]) rfl ⟨HF2.out _ _ hA'.out st3.out rfl, hB5.out⟩
          | true =>
            rw [cr] at HGJ st
            have HLJ := hideD (HL.out d x y z _ _ x8 y8 hD5.out)
            go_wp2_with fail
            refine (HGJ.out _).mono ?_
            rintro e w6 ⟨rfl, rfl⟩
            go_wp2_with fail
            refine HLJ.out.mono ?_
            rintro e w7 ⟨rfl, hD7, hb7, -⟩
            have hD8 : Hid (ODraft w7 d n (limK L (J + 1) r)) := by show ODraft _ _ _ _; rw [nx.out]; exact hD7
            have hB8 := hideD (hB5.out.trans (hb7.mono hd))
            clear hD7 hb7 hD5 hB5 HLJ nx c0 c1 c2
            go_wp2_with fail
            go_roundw
            case rel => exact ⟨J + 1, by omega, by go_num, st, hD8, hB8⟩
            case measure => simp [intOf]; omega
        · have eJ : J = q := by omega
          subst eJ
          have HZ := hideD (ozone_out d n w.heap.size _ wr h hD.out (limK_32 H32.out J (fun k hk => (HI.out k (by have := EQ.out; omega)).1)) hB.out.size)
          go_wp2_with fail
          refine HZ.out.mono ?_
          rintro e w2 ⟨p, kk, rfl, ho, hb⟩
          go_wp2_with fail
          exact bodyPost_ret (v := .tuple #[.pointer p, .int .i64 kk]) (by simp [results, Try.results13, go_sem]) rfl ⟨HF3.out _ _ hA'.out hG.out ho.out, beyondD hB.out hb.out⟩
end Go.Proofs.Ytjanibholjimkaa
