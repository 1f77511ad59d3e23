/-
  The walk of TopFollows.
-/
import Derived.Test.YtjanibholjimkaaQ51
namespace Go.Proofs.Ytjanibholjimkaa
open Go.RowKit Go.Shelf Go.ChangeShapes Go.WideShapes Go.ChangeAt Go.Deep
set_option linter.unusedVariables false
set_option maxRecDepth 100000
attribute [local go_sem] Oper.semAt_some
def zer (N : Nat) : Array Value := (List.replicate (2 * N) (.int .i64 0)).toArray
theorem zer_at {N k : Nat} (w : World) (hk : k < 2 * N) : (w.alloc (.cells (zer N) 30)).cell? ⟨w.heap.size, k, none⟩ = some (.int .i64 0) ∧ (w.alloc (.cells (zer N) 30)).frozen? ⟨w.heap.size, k, none⟩ = false := by
  refine ⟨?_, by simp [go_sem]⟩
  unfold zer
  simp [go_sem, hk]
theorem makes {N : Nat} (h1 : 2 ≤ N) (h2 : N ≤ 4) (w : World) : (Instr.makeSlice 28 (.int .i64 N) (.int .i64 N)).run Try.prog w = .ok (.slice (some ⟨w.heap.size, 0, none⟩) N N) (w.alloc (.cells (zer N) 30)) := by
  rcases (show N = 2 ∨ N = 3 ∨ N = 4 by omega) with rfl | rfl | rfl <;> kernel_rfl
/-- So many of the valuation's fractions are there. -/
def FillM (w : World) (vb N K : Nat) : Prop := ∀ i, i < N → w.cell? ⟨vb, i * 2, none⟩ = some (.int .i64 0) ∧ w.cell? ⟨vb, i * 2 + 1, none⟩ = some (.int .i64 (if i < K then 1 else 0)) ∧ w.frozen? ⟨vb, i * 2, none⟩ = false ∧ w.frozen? ⟨vb, i * 2 + 1, none⟩ = false
theorem FillM.past {w w' : World} {vb N K : Nat} (h : FillM w vb N K) (hb : Below w.heap.size w w') : FillM w' vb N K := fun i hi => by
  obtain ⟨h1, h2, h3, h4⟩ := h i hi
  exact ⟨kc _ _ hb h1, kc _ _ hb h2, kf _ _ hb h1 h3, kf _ _ hb h2 h4⟩
theorem FillM.set {w : World} {vb N K : Nat} (h : FillM w vb N K) (hK : K < N) : FillM ((w.setCell ⟨vb, K * 2, none⟩ (.int .i64 0)).setCell ⟨vb, K * 2 + 1, none⟩ (.int .i64 1)) vb N (K + 1) := fun j hj => by
  obtain ⟨h1, h2, h3, h4⟩ := h j hj
  by_cases e : j = K
  · subst e
    rw [if_pos (by omega)]
    rw [if_neg (by omega)] at h2
    simp [go_sem, *]
  · have a : ∀ a b : Nat, ¬ a = b → ∀ u : World, ∀ v : Value, (u.setCell ⟨vb, b, none⟩ v).cell? ⟨vb, a, none⟩ = u.cell? ⟨vb, a, none⟩ := fun a b ne u v => World.cell?_setCell_other _ _ _ _ (by intro e; injection e; omega)
    have f : ∀ a b : Nat, ∀ u : World, ∀ v : Value, (u.setCell ⟨vb, b, none⟩ v).frozen? ⟨vb, a, none⟩ = u.frozen? ⟨vb, a, none⟩ := fun a b u v => by simp [go_sem]
    rw [a _ _ (by omega), a _ _ (by omega), a _ _ (by omega), a _ _ (by omega), f, f, f, f]
    refine ⟨h1, ?_, h3, h4⟩
    rw [h2]
    by_cases q : j < K
    · rw [if_pos q, if_pos (by omega)]
    · rw [if_neg q, if_neg (by omega)]
theorem FillM.full {w : World} {vb n N : Nat} (h : FillM w vb N N) (hN : N = n + 1) : VMem w vb n (fun _ => 0) := fun i hi => by
  obtain ⟨h1, h2, h3, h4⟩ := h i (by omega)
  rw [if_pos (by omega)] at h2
  obtain ⟨a, b⟩ := fr_whole (k := 0) (by decide) (by decide)
  have a' : fN 0 = 0 := a
  have b' : fD 0 = 1 := b
  rw [a', b']
  exact ⟨h1, h2, h3, h4⟩
theorem StM.past {w wr wr' : World} {vb n m zb K : Nat} {c : Row} {X : Nat → Int} (h : StM w wr vb n m zb c X K) (hb : Below wr.heap.size wr wr') : StM w wr' vb n m zb c X K := ⟨h.st, h.z.past hb, h.v.past hb, beyondD h.below hb, h.ne, h.lo⟩
theorem StM.more {w wr : World} {vb n m zb K : Nat} {c : Row} {X : Nat → Int} (h : StM w wr vb n m zb c X K) : StM w wr vb n m zb c X (K + 1) := ⟨h.st.more, h.z, h.v, h.below, h.ne, h.lo⟩
theorem StM.vlt {w wr : World} {vb n m zb K : Nat} {c : Row} {X : Nat → Int} (h : StM w wr vb n m zb c X K) : vb < wr.heap.size := World.block_lt_of_cell? _ _ (h.v 0 (by omega)).1
theorem which_nat (x : Int) (N : Nat) (hx : I64 x) (h1 : 2 ≤ N) (h2 : N ≤ 1000) : ∃ i : Nat, i < N ∧ (x % (N : Int) = i) ∧ ∀ w, Calls Try.prog 4 #[.int .i64 x, .int .i64 N] w fun e w' => e = .returned (.int .i64 i) ∧ w' = w := by
  have a := Int.emod_nonneg x (show (N : Int) ≠ 0 by omega)
  have b := Int.emod_lt_of_pos x (show (0 : Int) < N by omega)
  obtain ⟨i, hi⟩ := Int.eq_ofNat_of_zero_le a
  refine ⟨i, by omega, hi, fun w => ?_⟩
  have := which_any x N w hx (by omega) (by omega)
  rw [hi] at this
  exact this
theorem Zsay.out {w : World} {n f : Nat} {args : Array Value} {c : Row} (h : Zsay w n f args c) : Calls Try.prog f args w fun e w' => (∃ b, w.heap.size ≤ b ∧ e = .returned (.tuple #[.pointer (some ⟨b, 0, none⟩), .int .i64 0]) ∧ ZoneAt w' b n c) ∧ Below w.heap.size w w' := h
/-- So many clocks are later. -/
def Yd (X : Nat → Int) (d : Int) (I j : Nat) : Int := if 1 ≤ j ∧ j < I then X j + d else X j
theorem add_says {n m T I : Nat} {c : Row} {X : Nat → Int} {dn dd : Int} (h : St n m c X T) (hT : T ≤ 200) (hI : I ≤ n) (hr : rightR dn dd = true) (h0 : 0 ≤ dn) (h1 : dn ≤ 100) (h4 : dd ≤ 4) (i1 : I64 dn) (i2 : I64 dd) (w : World) :
    Calls Try.prog 8 #[rv (fN (X I)) (fD (X I)), rv dn dd] w fun e w' => e = .returned (.tuple #[rv (fN (X I + dl dn dd)) (fD (X I + dl dn dd)), .int .i64 0]) ∧ Below w.heap.size w w' := by
  have p := (right_pos hr).1
  have a := h.fr hT I hI
  have s := h.small hT I hI
  have t := dl_bd p h4 h0 h1
  have b := fr_ok (X := X I + dl dn dd) (by omega) (by omega)
  have := radd_any (fN (X I)) (fD (X I)) dn dd w a.i1 a.i2 i1 i2
  rw [fr_add a hr (dl_eq p h4), b.can] at this
  exact this
set_option maxHeartbeats 16000000 in
theorem topFollows.walk (clocks : Int) (wc : (Lit.int .i64 clocks).wf = true) (ad : Option Addr) (q cap : Nat) (L : Deeds) (w : World) (hC : ∀ k, k < q → ∃ cb off, ad = some ⟨cb, off, none⟩ ∧ w.cell? ⟨cb, off + k * 7, none⟩ = some (.int .i64 (L.k k)) ∧ w.cell? ⟨cb, off + k * 7 + 1, none⟩ = some (.int .i64 (L.n k)) ∧ w.cell? ⟨cb, off + k * 7 + 2, none⟩ = some (.int .i64 (L.d k)) ∧ w.cell? ⟨cb, off + k * 7 + 3, none⟩ = some (.int .i64 (L.i k)) ∧ w.cell? ⟨cb, off + k * 7 + 4, none⟩ = some (.int .i64 (L.j k)) ∧ w.cell? ⟨cb, off + k * 7 + 5, none⟩ = some (.int .i64 (L.m k)) ∧ w.cell? ⟨cb, off + k * 7 + 6, none⟩ = some (.int .i32 (L.b k)))
    (hI : ∀ k, k < q → I64 (L.n k) ∧ I64 (L.d k) ∧ I64 (L.i k) ∧ I64 (L.j k) ∧ I64 (L.m k) ∧ -2147483648 ≤ L.b k ∧ L.b k ≤ 2147483647) (hq : q ≤ 9223372036854775807) :
    Calls Try.prog 3 #[.int .i64 clocks, .slice ad q cap] w fun e w' => e = .returned (.bool true) ∧ Below w.heap.size w w' := by
  have ic : I64 clocks := by
    have h : IntKind.i64.min ≤ clocks ∧ clocks ≤ 9223372036854775807 := by simpa [Lit.wf, go_sem] using wc
    have e : IntKind.i64.min = -9223372036854775808 := by decide
    exact ⟨by omega, h.2⟩
  have W1 : Hid (∀ w, _) := fun w => which_any clocks 3 w ic (by decide) (by decide)
  obtain ⟨n, hn⟩ : ∃ n : Nat, (n : Int) = clocks % 3 + 1 := ⟨(clocks % 3 + 1).toNat, by omega⟩
  have hn1 : 1 ≤ n := by omega
  have hn3 : n ≤ 3 := by omega
  have e1 : IntKind.i64.wrap (clocks % 3 + 1) = (n : Int) := by rw [IntKind.wrap_i64]; omega
  have e2 : wrap64 (clocks % 3 + 1) = (n : Int) := by unfold wrap64; omega
  obtain ⟨N, hN⟩ : ∃ N : Nat, N = n + 1 := ⟨_, rfl⟩
  have e3 : IntKind.i64.wrap ((n : Int) + 1) = (N : Int) := by rw [IntKind.wrap_i64]; omega
  have e4 : wrap64 ((n : Int) + 1) = (N : Int) := by unfold wrap64; omega
  have N2 : Hid (2 ≤ N ∧ N ≤ 4) := ⟨by omega, by omega⟩
  have MK := fun w => makes (N := N) (by omega) (by omega) w
  obtain ⟨m, hm⟩ : ∃ m, m = (n + 1) * (n + 1) := ⟨_, rfl⟩
  obtain ⟨c0, st0, Z0⟩ := St.start hn3 hm
  have Z0 := hideD Z0
  have ST0 := hideD st0
  have HM := hideD hm
  have HC := hideD hC
  have HI := hideD hI
  have Q1 : Hid (q ≤ 9223372036854775807) := hq
  clear hC hI hq
  have HN := hideD hN
  clear wc ic hn st0 hm hN
  go_enter Try.func3, Try.ntmps3
  go_wp2_with fail
  refine (W1.out _).mono ?_
  rintro e w' ⟨rfl, rfl⟩
  go_wp2_with fail
  refine (Z0.out _).mono ?_
  rintro e w1 ⟨⟨zb, zlo, rfl, hz⟩, hb⟩
  have B0 := hideD hb
  have ZN := hideD hz
  clear zlo hz hb W1 Z0
  go_wp2_with fail
  have F0 : Hid (FillM (w1.alloc (.cells (zer N) 30)) w1.heap.size N 0) := fun i hi => by
    have a := zer_at (N := N) (k := i * 2) w1 (by omega)
    have b := zer_at (N := N) (k := i * 2 + 1) w1 (by omega)
    rw [if_neg (by omega)]
    exact ⟨a.1, b.1, a.2, b.2⟩
  have BQ := hideD (single w1 (.cells (zer N) 30))
  have LO := hideD (Nat.le_refl w1.heap.size)
  have NE : Hid (¬ zb = w1.heap.size) := by
    have := World.block_lt_of_cell? _ _ ZN.out.clocks
    show ¬ zb = w1.heap.size
    intro e
    simp at this
    omega
  have LV : Hid (w'.heap.size ≤ w1.heap.size) := B0.out.size
  generalize w1.alloc (.cells (zer N) 30) = wq at *
  obtain ⟨vb, hvb⟩ : ∃ vb, vb = w1.heap.size := ⟨_, rfl⟩
  have LB : Hid (w1.heap.size ≤ vb) := by show _ ≤ _; omega
  rw [← hvb] at F0 LO NE LV
  rw [← hvb]
  clear hvb MK LO
  go_loopw [9] (fun s wr => ∃ (K : Nat), K ≤ N ∧ s = .int .i64 (K : Int) ∧ Hid (FillM wr vb N K) ∧ Hid (Below w1.heap.size w1 wr)) (fun s _ => N - (intOf s).toNat)
  case atStart => exact ⟨0, by omega, rfl, F0, BQ⟩
  case round =>
    obtain ⟨K, hK, rfl, FK, BK⟩ := hrel
    clear F0 BQ
    by_cases ck : K < N
    · have k0 : (0 : Int) ≤ (K : Int) := by omega
      have k1 : (K : Int) < (N : Int) := by omega
      have k2 : (K : Int) ≤ (n : Int) := by have := HN.out; omega
      have k3 : (K : Int) < 9223372036854775807 := by omega
      have OF := hideD (fun w => ratOf_any 0 w)
      go_wp2_with fail
      refine (OF.out _).mono ?_
      rintro e w3 ⟨rfl, hb⟩
      have F3 := FK.out.past hb
      obtain ⟨q1, q2, q3, q4⟩ := F3 K ck
      have F4 := hideD (F3.set ck)
      have B4 := hideD (set2 (o1 := K * 2) (o2 := K * 2 + 1) (beyondD BK.out hb) LB.out (.int .i64 0) (.int .i64 1))
      clear hb F3 FK BK OF
      go_wp2_with fail
      go_roundw
      case rel => exact ⟨K + 1, by omega, by go_num, F4, B4⟩
      case measure => simp [intOf]; omega
    · have hK2 : Hid (K = N) := by show K = N; omega
      have k2 : ¬ (K : Int) ≤ (n : Int) := by have := HN.out; omega
      have VM : Hid (VMem wr vb n (fun _ => 0)) := by
        have := hK2.out
        subst this
        exact FK.out.full HN.out
      have S0 : Hid (StM w' wr vb n m zb c0 (fun _ => 0) 0) := ⟨ST0.out, ZN.out.past BK.out, VM.out, beyondD B0.out BK.out, NE.out, LV.out⟩
      clear FK BK hK2 VM ST0 ZN B0 NE LV LB
      go_wp2_with fail
      go_loopw [6, 10] (fun s6 s10 wr => ∃ (K zb : Nat) (c : Row) (X : Nat → Int), K ≤ q ∧ K ≤ 200 ∧ s6 = .pointer (some ⟨zb, 0, none⟩) ∧ s10 = .int .i64 (K : Int) ∧ Hid (StM w' wr vb n m zb c X K)) (fun _ s _ => q - (intOf s).toNat)
      case atStart => exact ⟨0, zb, c0, fun _ => 0, by omega, by omega, rfl, rfl, S0⟩
      case round =>
        obtain ⟨K, zb, c, X, hK, hK2, rfl, rfl, SM⟩ := hrel
        clear S0
        by_cases ck : K < q
        · by_cases cl : K < 200
          · have k0 : (0 : Int) ≤ (K : Int) := by omega
            have k1 : (K : Int) < (q : Int) := by omega
            have k2 : (K : Int) < 200 := by omega
            obtain ⟨cb, off, rfl, d0, d1, d2, d3, d4, d5, d6⟩ := HC.out K ck
            obtain ⟨in1, in2, in3, in4, in5, in6, in7⟩ := HI.out K ck
            have d0 := kc _ _ SM.out.below d0
            have d1 := kc _ _ SM.out.below d1
            have d2 := kc _ _ SM.out.below d2
            have d3 := kc _ _ SM.out.below d3
            have d4 := kc _ _ SM.out.below d4
            have d5 := kc _ _ SM.out.below d5
            have d6 := kc _ _ SM.out.below d6
            generalize L.k K = kd at *
            generalize L.n K = dn at *
            generalize L.d K = dd at *
            generalize L.i K = ii at *
            generalize L.j K = jj at *
            generalize L.m K = nn at *
            generalize L.b K = bb at *
            have IN1 := hideD in1
            have IN2 := hideD in2
            have IN3 := hideD in3
            have IN4 := hideD in4
            have IN5 := hideD in5
            have IN6 := hideD in6
            have IN7 := hideD in7
            clear in1 in2 in3 in4 in5 in6 in7
            obtain ⟨i0, i1, i2, WI⟩ := which_nat ii N IN3.out N2.out.1 (by have := N2.out.2; omega)
            obtain ⟨j0, j1, j2, WJ⟩ := which_nat jj N IN4.out N2.out.1 (by have := N2.out.2; omega)
            have WI := hideD WI
            have WJ := hideD WJ
            have I1 := hideD i1
            have J1 := hideD j1
            clear i1 i2 j1 j2 IN3 IN4
            go_upto_region 14 with (fail)
            have p0 : (wr.alloc (.cells #[.int .i64 kd, .int .i64 dn, .int .i64 dd, .int .i64 ii, .int .i64 jj, .int .i64 nn, .int .i32 bb] 34)).cell? ⟨wr.heap.size, 0, none⟩ = some (.int .i64 kd) := by simp [go_sem]
            have p1 : (wr.alloc (.cells #[.int .i64 kd, .int .i64 dn, .int .i64 dd, .int .i64 ii, .int .i64 jj, .int .i64 nn, .int .i32 bb] 34)).cell? ⟨wr.heap.size, 1, none⟩ = some (.int .i64 dn) := by simp [go_sem]
            have p2 : (wr.alloc (.cells #[.int .i64 kd, .int .i64 dn, .int .i64 dd, .int .i64 ii, .int .i64 jj, .int .i64 nn, .int .i32 bb] 34)).cell? ⟨wr.heap.size, 2, none⟩ = some (.int .i64 dd) := by simp [go_sem]
            have p3 : (wr.alloc (.cells #[.int .i64 kd, .int .i64 dn, .int .i64 dd, .int .i64 ii, .int .i64 jj, .int .i64 nn, .int .i32 bb] 34)).cell? ⟨wr.heap.size, 3, none⟩ = some (.int .i64 ii) := by simp [go_sem]
            have p4 : (wr.alloc (.cells #[.int .i64 kd, .int .i64 dn, .int .i64 dd, .int .i64 ii, .int .i64 jj, .int .i64 nn, .int .i32 bb] 34)).cell? ⟨wr.heap.size, 4, none⟩ = some (.int .i64 jj) := by simp [go_sem]
            have p5 : (wr.alloc (.cells #[.int .i64 kd, .int .i64 dn, .int .i64 dd, .int .i64 ii, .int .i64 jj, .int .i64 nn, .int .i32 bb] 34)).cell? ⟨wr.heap.size, 5, none⟩ = some (.int .i64 nn) := by simp [go_sem]
            have p6 : (wr.alloc (.cells #[.int .i64 kd, .int .i64 dn, .int .i64 dd, .int .i64 ii, .int .i64 jj, .int .i64 nn, .int .i32 bb] 34)).cell? ⟨wr.heap.size, 6, none⟩ = some (.int .i32 bb) := by simp [go_sem]
            have SMW := hideD (SM.out.past (single wr (.cells #[.int .i64 kd, .int .i64 dn, .int .i64 dd, .int .i64 ii, .int .i64 jj, .int .i64 nn, .int .i32 bb] 34)))
            have NB : Hid (¬ wr.heap.size = vb) := by
              have := SM.out.vlt
              show ¬ _
              omega
            clear d0 d1 d2 d3 d4 d5 d6 SM
            generalize wr.alloc (.cells #[.int .i64 kd, .int .i64 dn, .int .i64 dd, .int .i64 ii, .int .i64 jj, .int .i64 nn, .int .i32 bb] 34) = W at *
            generalize wr.heap.size = db at *
            have BW := (Below.refl W.heap.size W).drew
            have BW0 := Below.refl W.heap.size W
            go_cut [12, 13] (fun s t w' => s = .int .i64 (i0 : Int) ∧ t = .int .i64 (j0 : Int) ∧ Below W.heap.size W w')
            case first => as_aux_lemma =>
              go_region_held3 (fun w' => w'.cell? ⟨db, 3, none⟩ = some (.int .i64 ii) ∧ w'.cell? ⟨db, 4, none⟩ = some (.int .i64 jj) ∧ Below W.heap.size W w')
                (first | exact ⟨by with_reducible assumption, by with_reducible assumption, by with_reducible assumption⟩ | go_keep)
                (first
                  | (go_at_call_of 4 ii; refine (WI.out _).mono ?_; rintro e w' ⟨rfl, rfl⟩)
                  | (go_at_call 4; refine (WJ.out _).mono ?_; rintro e w' ⟨rfl, rfl⟩))
              all_goals go_wp2_with fail
              all_goals go_meet
              all_goals exact ⟨rfl, rfl, by with_reducible assumption⟩
            case rest => as_aux_lemma =>
              obtain ⟨rfl, rfl, hb⟩ := hcut
              have SM := hideD (SMW.out.past hb)
              have c0 := kc _ _ hb p0
              have c1 := kc _ _ hb p1
              have c2 := kc _ _ hb p2
              have c4 := kc _ _ hb p4
              have c5 := kc _ _ hb p5
              have c6 := kc _ _ hb p6
              clear hb BW BW0 WI WJ p0 p1 p2 p3 p4 p5 p6 SMW
              have IL : Hid (i0 ≤ n ∧ j0 ≤ n) := by
                have := I1.out
                have := J1.out
                have := HN.out
                exact ⟨by omega, by omega⟩
              have KT : Hid (K < 200) := cl
              by_cases k00 : kd = 0
              · subst k00
                have RR := hideD (fun w => rightR_any dn dd w IN1.out.1 IN1.out.2 IN2.out.1 IN2.out.2)
                by_cases r : rightR dn dd = true
                · rw [r] at RR
                  by_cases x1 : dn < 0
                  · go_wp2_with fail
                    refine (RR.out _).mono ?_
                    rintro e w4 ⟨rfl, hb⟩
                    have SM4 := hideD (SM.out.past hb)
                    have g1 := kc _ _ hb c1
                    have g2 := kc _ _ hb c2
                    clear hb SM RR c0 c1 c2 c4 c5 c6
                    go_wp2_with fail
                    have HK : Hid (K + 1 ≤ 200) := by show _ ≤ _; omega
                    have SM10 := hideD (SM4.out.more)
                    clear SM4
                    go_roundw
                    case rel => exact ⟨K + 1, zb, c, X, by omega, HK.out, rfl, by go_num, SM10⟩
                    case measure => simp [intOf]; omega
                  · by_cases x2 : 100 < dn
                    · go_wp2_with fail
                      refine (RR.out _).mono ?_
                      rintro e w4 ⟨rfl, hb⟩
                      have SM4 := hideD (SM.out.past hb)
                      have g1 := kc _ _ hb c1
                      have g2 := kc _ _ hb c2
                      clear hb SM RR c0 c1 c2 c4 c5 c6
                      go_wp2_with fail
                      have HK : Hid (K + 1 ≤ 200) := by show _ ≤ _; omega
                      have SM10 := hideD (SM4.out.more)
                      clear SM4
                      go_roundw
                      case rel => exact ⟨K + 1, zb, c, X, by omega, HK.out, rfl, by go_num, SM10⟩
                      case measure => simp [intOf]; omega
                    · by_cases x3 : 4 < dd
                      · go_wp2_with fail
                        refine (RR.out _).mono ?_
                        rintro e w4 ⟨rfl, hb⟩
                        have SM4 := hideD (SM.out.past hb)
                        have g1 := kc _ _ hb c1
                        have g2 := kc _ _ hb c2
                        clear hb SM RR c0 c1 c2 c4 c5 c6
                        go_wp2_with fail
                        have HK : Hid (K + 1 ≤ 200) := by show _ ≤ _; omega
                        have SM10 := hideD (SM4.out.more)
                        clear SM4
                        go_roundw
                        case rel => exact ⟨K + 1, zb, c, X, by omega, HK.out, rfl, by go_num, SM10⟩
                        case measure => simp [intOf]; omega
                      · go_wp2_with fail
                        refine (RR.out _).mono ?_
                        rintro e w4 ⟨rfl, hb⟩
                        have SM4 := hideD (SM.out.past hb)
                        have g1 := kc _ _ hb c1
                        have g2 := kc _ _ hb c2
                        clear hb SM RR c0 c1 c2 c4 c5 c6
                        as_aux_lemma =>
                          obtain ⟨c', st', U⟩ := SM4.out.st.up (d := dl dn dd) hn3 HM.out KT.out (dl_bd (right_pos r).1 (by omega) (by omega) (by omega)).1 (dl_bd (right_pos r).1 (by omega) (by omega) (by omega)).2
                          have ST' := hideD st'
                          have U := hideD U
                          have AD : Hid (∀ I, I ≤ n → ∀ w, _) := fun I hI w => add_says SM4.out.st (by have := KT.out; omega) hI r (by omega) (by omega) (by omega) IN1.out IN2.out w
                          clear st'
                          obtain ⟨δ, eδ⟩ : ∃ δ, δ = dl dn dd := ⟨_, rfl⟩
                          rw [← eδ] at AD ST'
                          have VL := hideD SM4.out.vlt
                          clear eδ
                          go_wp2_with fail
                          clear x1 x2 x3 r
                          go_loopw [14] (fun s wz => ∃ (I : Nat), 1 ≤ I ∧ I ≤ N ∧ s = .int .i64 (I : Int) ∧ Hid (VMem wz vb n (Yd X δ I)) ∧ Hid (OnlyB vb w4 wz) ∧ Hid (Below w'.heap.size w' wz)) (fun s _ => N - (intOf s).toNat)
                          case atStart => exact ⟨1, by omega, by have := N2.out; omega, rfl, SM4.out.v.congr (fun i hi => by unfold Yd; rw [if_neg (by omega)]), OnlyB.refl _ _, SM4.out.below⟩
                          case round =>
                            obtain ⟨I, I1', hI, rfl, VY, OB, BW'⟩ := hrel
                            by_cases ci : I < N
                            · have i1 : (I : Int) ≤ (n : Int) := by have := HN.out; omega
                              have i2 : (0 : Int) ≤ (I : Int) := by omega
                              have i3 : (I : Int) < (N : Int) := by omega
                              have i4 : (I : Int) < 9223372036854775807 := by have := N2.out; omega
                              have A1 := hideD (AD.out I (by omega))
                              have eY : Yd X δ I I = X I := by unfold Yd; rw [if_neg (by omega)]
                              obtain ⟨a1, a2, f1, f2⟩ := VY.out I (by omega)
                              rw [eY] at a1 a2
                              have q1 := (OB.out.cell (p := ⟨db, 1, none⟩) (World.block_lt_of_cell? _ _ g1) NB.out).trans g1
                              have q2 := (OB.out.cell (p := ⟨db, 2, none⟩) (World.block_lt_of_cell? _ _ g2) NB.out).trans g2
                              have nb : ¬ vb = db := fun e => NB.out e.symm
                              have KV : Hid (∀ W, Below wr.heap.size wr W → VMem ((W.setCell ⟨vb, I * 2, none⟩ (.int .i64 (fN (X I + δ)))).setCell ⟨vb, I * 2 + 1, none⟩ (.int .i64 (fD (X I + δ)))) vb n (Yd X δ (I + 1)) ∧ OnlyB vb w4 ((W.setCell ⟨vb, I * 2, none⟩ (.int .i64 (fN (X I + δ)))).setCell ⟨vb, I * 2 + 1, none⟩ (.int .i64 (fD (X I + δ)))) ∧ Below w'.heap.size w' ((W.setCell ⟨vb, I * 2, none⟩ (.int .i64 (fN (X I + δ)))).setCell ⟨vb, I * 2 + 1, none⟩ (.int .i64 (fD (X I + δ))))) := fun W hb => by
                                refine ⟨((VY.out.past hb).set (i := I) (by omega) (X I + δ)).congr fun j hj => ?_, ((OB.out.trans (OnlyB.below hb)).set (p := ⟨vb, I * 2, none⟩) rfl _).set (p := ⟨vb, I * 2 + 1, none⟩) rfl _, set2 (beyondD BW'.out hb) SM4.out.lo _ _⟩
                                unfold SVk Yd
                                by_cases e : j = I
                                · subst e; rw [if_pos rfl, if_pos (by omega)]
                                · rw [if_neg e]
                                  by_cases e2 : 1 ≤ j ∧ j < I
                                  · rw [if_pos e2, if_pos (by omega)]
                                  · rw [if_neg e2, if_neg (by omega)]
                              have BJ := Below.refl wr.heap.size wr
                              have BJ2 := (Below.refl wr.heap.size wr).drew
                              clear VY OB BW' AD eY
                              generalize fN (X I + δ) = n3 at *
                              generalize fD (X I + δ) = d3 at *
                              generalize fN (X I) = n1 at *
                              generalize fD (X I) = d1 at *
                              go_upto_region 24 with (fail)
                              go_cut [7] (fun s wn => s = .int .i64 0 ∧ VMem wn vb n (Yd X δ (I + 1)) ∧ OnlyB vb w4 wn ∧ Below w'.heap.size w' wn)
                              case first => as_aux_lemma =>
                                go_region_with
                                  (go_at_call 8; refine (A1.out _).mono ?_; rintro e w6 ⟨rfl, hb⟩; have k1 := kc _ _ hb a1; have k2 := kc _ _ hb a2; have k3 := kf _ _ hb a1 f1; have k4 := kf _ _ hb a2 f2; have KX := KV.out w6 (by first | with_reducible exact hb | exact beyondD BJ2 hb))
                                all_goals go_wp2_with fail
                                all_goals go_meet
                                all_goals exact ⟨rfl, KX.1, KX.2.1, KX.2.2⟩
                              case rest => as_aux_lemma =>
                                obtain ⟨rfl, v2, o2, b2⟩ := hcut
                                have V2 := hideD v2
                                have O2 := hideD o2
                                have B2 := hideD b2
                                clear v2 o2 b2 a1 a2 f1 f2 q1 q2 KV BJ BJ2 A1
                                go_wp2_with fail
                                go_roundw
                                case rel => exact ⟨I + 1, by omega, by omega, by go_num, V2, O2, B2⟩
                                case measure => simp [intOf]; omega
                            · have eN : Hid (I = N) := by show I = N; omega
                              have i1 : ¬ (I : Int) ≤ (n : Int) := by have := HN.out; omega
                              have V2 : Hid (VMem wr vb n (VDx X δ)) := VY.out.congr fun i hi => by
                                have := eN.out
                                have := HN.out
                                unfold VDx Yd
                                by_cases i0 : i = 0
                                · subst i0; rw [if_pos rfl, if_neg (by omega)]; exact SM4.out.st.x0.symm
                                · rw [if_neg i0, if_pos (by omega)]
                              have Z2 := hideD (SM4.out.z.only OB.out SM4.out.ne)
                              have LV2 : Hid (vb < wr.heap.size) := Nat.lt_of_lt_of_le VL.out OB.out.1
                              have UU := hideD (U.out wr zb Z2.out).out
                              have LO := hideD SM4.out.lo
                              clear eN VY OB U AD SM4 VL g1 g2
                              go_wp2_with fail
                              refine UU.out.mono ?_
                              rintro e w5 ⟨⟨zb2, zlo, rfl, hz⟩, hb⟩
                              have SM5 : Hid (StM w' w5 vb n m zb2 c' (VDx X δ) (K + 1)) := ⟨ST'.out, hz, V2.out.past hb, beyondD BW'.out hb, by have := LV2.out; omega, LO.out⟩
                              clear zlo hz hb UU V2 Z2 LV2 LO BW' ST'
                              have HK : Hid (K + 1 ≤ 200) := KT.out
                              have H1 : Hid (Calls Try.prog 14 #[.pointer (some ⟨zb2, 0, none⟩)] w5 fun e w'' => e = .returned (.bool false) ∧ Below w5.heap.size w5 w'') := by
                                have := empty_any zb2 n c' w5 (by omega) SM5.out.z
                                rw [SM5.out.st.some HM.out] at this
                                exact this
                              have H2 : Hid (∀ W, Below w5.heap.size w5 W → Calls Try.prog 15 #[.pointer (some ⟨zb2, 0, none⟩), .slice (some ⟨vb, 0, none⟩) N N] W fun e w'' => e = .returned (.bool true) ∧ Below W.heap.size W w'') := fun W hb => by
                                have := lholds_any hn3 HM.out HK.out SM5.out.st zb2 vb W (SM5.out.z.past hb) (SM5.out.v.past hb).at
                                rw [show n + 1 = N from HN.out.symm] at this
                                exact this
                              go_wp2_with fail
                              refine H1.out.mono ?_
                              rintro e w9 ⟨rfl, hb⟩
                              have H3 := hideD (H2.out w9 hb)
                              have SM9 := hideD (SM5.out.past hb)
                              clear H1 H2 hb SM5
                              go_wp2_with fail
                              refine H3.out.mono ?_
                              rintro e w10 ⟨rfl, hb⟩
                              have SM10 := hideD (SM9.out.past hb)
                              clear H3 SM9 hb
                              go_wp2_with fail
                              go_roundw
                              case rel => exact ⟨K + 1, zb2, c', (VDx X δ), by omega, HK.out, rfl, by go_num, SM10⟩
                              case measure => simp [intOf]; omega
                · have r' : rightR dn dd = false := by simpa using r
                  rw [r'] at RR
                  go_wp2_with fail
                  refine (RR.out _).mono ?_
                  rintro e w4 ⟨rfl, hb⟩
                  have SM4 := hideD (SM.out.past hb)
                  clear hb SM RR c0 c1 c2 c4 c5 c6 r r'
                  go_wp2_with fail
                  have HK : Hid (K + 1 ≤ 200) := by show _ ≤ _; omega
                  have SM10 := hideD (SM4.out.more)
                  clear SM4
                  go_roundw
                  case rel => exact ⟨K + 1, zb, c, X, by omega, HK.out, rfl, by go_num, SM10⟩
                  case measure => simp [intOf]; omega
              · by_cases k01 : kd = 1
                · subst k01
                  as_aux_lemma =>
                    by_cases z0 : i0 = 0
                    · subst z0
                      clear c1 c2 c4 c5 c6
                      go_wp2_with fail
                      clear c0
                      have HK : Hid (K + 1 ≤ 200) := KT.out
                      have SM10 := hideD (SM.out.more)
                      clear SM
                      go_roundw
                      case rel => exact ⟨K + 1, zb, c, X, by omega, HK.out, rfl, by go_num, SM10⟩
                      case measure => simp [intOf]; omega

                    · obtain ⟨k, k9, k10, WN⟩ := which_nat nn 10 IN5.out (by decide) (by decide)
                      have WN : Hid (∀ w, Calls Try.prog 4 #[.int .i64 nn, .int .i64 10] w fun e w' => e = .returned (.int .i64 (k : Int)) ∧ w' = w) := WN
                      have z1 : ¬ (i0 : Int) = 0 := by omega
                      have i1 : (i0 : Int) < (N : Int) := by have := I1.out; omega
                      have i2 : (0 : Int) ≤ (i0 : Int) := by omega
                      obtain ⟨c', st', U⟩ := SM.out.st.set (x := i0) (k := k) hn3 HM.out KT.out (by omega) IL.out.1 (by omega) (by omega)
                      have ST' := hideD st'
                      have U := hideD U
                      have OF := hideD (fun w => ratOf_any (k : Int) w)
                      obtain ⟨a1, a2, f1, f2⟩ := SM.out.v i0 IL.out.1
                      have KV : Hid (∀ W, Below wc.heap.size wc W → VMem ((W.setCell ⟨vb, i0 * 2, none⟩ (.int .i64 k)).setCell ⟨vb, i0 * 2 + 1, none⟩ (.int .i64 1)) vb n (SVk X i0 (k * 12)) ∧ ZoneAt ((W.setCell ⟨vb, i0 * 2, none⟩ (.int .i64 k)).setCell ⟨vb, i0 * 2 + 1, none⟩ (.int .i64 1)) zb n c ∧ Below w'.heap.size w' ((W.setCell ⟨vb, i0 * 2, none⟩ (.int .i64 k)).setCell ⟨vb, i0 * 2 + 1, none⟩ (.int .i64 1)) ∧ ((W.setCell ⟨vb, i0 * 2, none⟩ (.int .i64 k)).setCell ⟨vb, i0 * 2 + 1, none⟩ (.int .i64 1)).cell? ⟨db, 5, none⟩ = some (.int .i64 nn) ∧ vb < ((W.setCell ⟨vb, i0 * 2, none⟩ (.int .i64 k)).setCell ⟨vb, i0 * 2 + 1, none⟩ (.int .i64 1)).heap.size) := fun W hb => by
                        obtain ⟨w1, w2⟩ := fr_whole (k := (k : Int)) (by omega) (by omega)
                        have V := (SM.out.v.past hb).set IL.out.1 ((k : Int) * 12)
                        rw [w1, w2] at V
                        have OB : OnlyB vb wc ((W.setCell ⟨vb, i0 * 2, none⟩ (.int .i64 k)).setCell ⟨vb, i0 * 2 + 1, none⟩ (.int .i64 1)) := ((OnlyB.below hb).set (p := ⟨vb, i0 * 2, none⟩) rfl _).set (p := ⟨vb, i0 * 2 + 1, none⟩) rfl _
                        exact ⟨V, SM.out.z.only OB SM.out.ne, set2 (beyondD SM.out.below hb) SM.out.lo _ _, (OB.cell (p := ⟨db, 5, none⟩) (World.block_lt_of_cell? _ _ c5) NB.out).trans c5, Nat.lt_of_lt_of_le SM.out.vlt OB.1⟩
                      have LO := hideD SM.out.lo
                      clear st' c1 c2 c4 c6 SM z0 k9 k10
                      generalize fN (X i0) = n1 at *
                      generalize fD (X i0) = d1 at *
                      go_wp2_with fail
                      refine (WN.out _).mono ?_
                      rintro e w4 ⟨rfl, rfl⟩
                      go_wp2_with fail
                      refine (OF.out _).mono ?_
                      rintro e w5 ⟨rfl, hb⟩
                      have b1 := kc _ _ hb a1
                      have b2 := kc _ _ hb a2
                      have g1 := kf _ _ hb a1 f1
                      have g2 := kf _ _ hb a2 f2
                      obtain ⟨v2, z2, o2, y2, l2⟩ := KV.out w5 hb
                      have V2 := hideD v2
                      have O2 := hideD o2
                      have L2 := hideD l2
                      have UU := hideD (U.out _ zb z2).out
                      have NE := hideD (fun (b : Nat) (h : ((w5.setCell ⟨vb, i0 * 2, none⟩ (.int .i64 k)).setCell ⟨vb, i0 * 2 + 1, none⟩ (.int .i64 1)).heap.size ≤ b) => (show ¬ b = vb by omega))
                      clear v2 z2 o2 l2 KV hb a1 a2 f1 f2 OF U c5 c0
                      go_wp2_with fail
                      refine (WN.out _).mono ?_
                      rintro e w6 ⟨rfl, rfl⟩
                      go_wp2_with fail
                      refine UU.out.mono ?_
                      rintro e w7 ⟨⟨zb2, zlo, rfl, hz⟩, hb⟩
                      have SM7 : Hid (StM _ w7 vb n m zb2 c' (SVk X i0 (k * 12)) (K + 1)) := ⟨ST'.out, hz, V2.out.past hb, beyondD O2.out hb, NE.out _ zlo, LO.out⟩
                      clear zlo hz hb UU V2 O2 L2 NE LO ST' b1 b2 g1 g2 y2
                      have HK : Hid (K + 1 ≤ 200) := KT.out
                      have H1 : Hid (Calls Try.prog 14 #[.pointer (some ⟨zb2, 0, none⟩)] w7 fun e w'' => e = .returned (.bool false) ∧ Below w7.heap.size w7 w'') := by
                        have := empty_any zb2 n c' w7 (by omega) SM7.out.z
                        rw [SM7.out.st.some HM.out] at this
                        exact this
                      have H2 : Hid (∀ W, Below w7.heap.size w7 W → Calls Try.prog 15 #[.pointer (some ⟨zb2, 0, none⟩), .slice (some ⟨vb, 0, none⟩) N N] W fun e w'' => e = .returned (.bool true) ∧ Below W.heap.size W w'') := fun W hb => by
                        have := lholds_any hn3 HM.out HK.out SM7.out.st zb2 vb W (SM7.out.z.past hb) (SM7.out.v.past hb).at
                        rw [show n + 1 = N from HN.out.symm] at this
                        exact this
                      go_wp2_with fail
                      refine H1.out.mono ?_
                      rintro e w9 ⟨rfl, hb⟩
                      have H3 := hideD (H2.out w9 hb)
                      have SM9 := hideD (SM7.out.past hb)
                      clear H1 H2 hb SM7
                      go_wp2_with fail
                      refine H3.out.mono ?_
                      rintro e w10 ⟨rfl, hb⟩
                      have SM10 := hideD (SM9.out.past hb)
                      clear H3 SM9 hb
                      go_wp2_with fail
                      go_roundw
                      case rel => exact ⟨K + 1, zb2, c', (SVk X i0 (k * 12)), by omega, HK.out, rfl, by go_num, SM10⟩
                      case measure => simp [intOf]; omega
                · skip
                  as_aux_lemma =>
                    have S1 : Hid (∀ W, _) := fun W => sub_says SM.out.st (by have := KT.out; omega) i0 j0 IL.out.1 IL.out.2 W
                    have FR := hideD (SM.out.st.frs (by have := KT.out; omega) i0 j0 IL.out.1 IL.out.2)
                    have KP := hideD (fun W => keeps_any bb _ _ _ W FR.out IN6.out IN7.out)
                    have i1 : (i0 : Int) < (N : Int) := by have := I1.out; omega
                    have i2 : (0 : Int) ≤ (i0 : Int) := by omega
                    have i3 : (j0 : Int) < (N : Int) := by have := J1.out; omega
                    have i4 : (0 : Int) ≤ (j0 : Int) := by omega
                    obtain ⟨a1, a2, -, -⟩ := SM.out.v i0 IL.out.1
                    obtain ⟨a3, a4, -, -⟩ := SM.out.v j0 IL.out.2
                    clear c1 c2 c4 c5
                    obtain ⟨δ, eδ⟩ : ∃ δ, δ = X i0 - X j0 := ⟨_, rfl⟩
                    have ED := hideD eδ
                    rw [← eδ] at S1 FR KP
                    clear eδ
                    generalize fN δ = n3 at *
                    generalize fD δ = d3 at *
                    generalize fN (X i0) = n1 at *
                    generalize fD (X i0) = d1 at *
                    generalize fN (X j0) = n2 at *
                    generalize fD (X j0) = d2 at *
                    have kb0 : (kd == 0) = false := by simpa using k00
                    have kb1 : (kd == 1) = false := by simpa using k01
                    go_upto_region 16 with (fail)
                    go_cut [15, 16] (fun s t wn => ∃ g, s = .pointer (some ⟨g, 0, none⟩) ∧ t = .int .i64 0 ∧ wn.cell? ⟨g, 0, none⟩ = some (.int .i64 n3) ∧ wn.cell? ⟨g, 1, none⟩ = some (.int .i64 d3) ∧ Below wc.heap.size wc wn)
                    case first => as_aux_lemma =>
                      refine wp_region_held (S := fun w' => w'.cell? ⟨vb, i0 * 2, none⟩ = some (.int .i64 n1) ∧ w'.cell? ⟨vb, i0 * 2 + 1, none⟩ = some (.int .i64 d1) ∧ w'.cell? ⟨vb, j0 * 2, none⟩ = some (.int .i64 n2) ∧ w'.cell? ⟨vb, j0 * 2 + 1, none⟩ = some (.int .i64 d2)) (by kernel_rfl) ?_
                      have hHeld : wc.drew.cell? ⟨vb, i0 * 2, none⟩ = some (.int .i64 n1) ∧ wc.drew.cell? ⟨vb, i0 * 2 + 1, none⟩ = some (.int .i64 d1) ∧ wc.drew.cell? ⟨vb, j0 * 2, none⟩ = some (.int .i64 n2) ∧ wc.drew.cell? ⟨vb, j0 * 2 + 1, none⟩ = some (.int .i64 d2) := ⟨a1, a2, a3, a4⟩
                      have BQ := hideD ((Below.refl wc.heap.size wc).drew)
                      refine wpAnyH_take (i := 0) (oi := ⟨_, _, _, _, _, _⟩) (v := ?_) rfl (by kernel_rfl) (by kernel_rfl) (by kernel_rfl) (fun _ _ _ h => h) (Or.inl ⟨by rfl, ?_⟩) (by assumption) ?_
                      rotate_left
                      · intro w hs1; (try dsimp only at hs1); obtain ⟨s0, s1, s2, s3⟩ := hs1; first | (go_simp; done) | (go_simp; with_reducible rfl)
                      try simp only [Act.put, List.setIfInBounds_toArray, List.set_cons_zero, List.set_cons_succ]
                      refine wpAnyH_take (i := 1) (oi := ⟨_, _, _, _, _, _⟩) (v := ?_) rfl (by kernel_rfl) (by kernel_rfl) (by kernel_rfl) (fun _ _ _ h => h) (Or.inl ⟨by rfl, ?_⟩) (by assumption) ?_
                      rotate_left
                      · intro w hs1; (try dsimp only at hs1); obtain ⟨s0, s1, s2, s3⟩ := hs1; first | (go_simp; done) | (go_simp; with_reducible rfl)
                      try simp only [Act.put, List.setIfInBounds_toArray, List.set_cons_zero, List.set_cons_succ]
                      refine wpAnyH_take (i := 2) (oi := ⟨_, _, _, _, _, _⟩) (v := ?_) rfl (by kernel_rfl) (by kernel_rfl) (by kernel_rfl) (fun _ _ _ h => h) (Or.inl ⟨by rfl, ?_⟩) (by assumption) ?_
                      rotate_left
                      · intro w hs1; (try dsimp only at hs1); obtain ⟨s0, s1, s2, s3⟩ := hs1; first | (go_simp; done) | (go_simp; with_reducible rfl)
                      try simp only [Act.put, List.setIfInBounds_toArray, List.set_cons_zero, List.set_cons_succ]
                      refine wpAnyH_take (i := 3) (oi := ⟨_, _, _, _, _, _⟩) (v := ?_) rfl (by kernel_rfl) (by kernel_rfl) (by kernel_rfl) (fun _ _ _ h => h) (Or.inl ⟨by rfl, ?_⟩) (by assumption) ?_
                      rotate_left
                      · intro w hs1; (try dsimp only at hs1); obtain ⟨s0, s1, s2, s3⟩ := hs1; first | (go_simp; done) | (go_simp; with_reducible rfl)
                      try simp only [Act.put, List.setIfInBounds_toArray, List.set_cons_zero, List.set_cons_succ]
                      refine wpAnyH_take (i := 4) (oi := ⟨_, _, _, _, _, _⟩) (v := ?_) rfl (by kernel_rfl) (by kernel_rfl) (by kernel_rfl) (fun _ _ _ h => h) (Or.inl ⟨by rfl, ?_⟩) (by assumption) ?_
                      rotate_left
                      · intro w hs1; (try dsimp only at hs1); obtain ⟨s0, s1, s2, s3⟩ := hs1; first | (go_simp; done) | (go_simp; with_reducible rfl)
                      try simp only [Act.put, List.setIfInBounds_toArray, List.set_cons_zero, List.set_cons_succ]
                      refine wpAnyH_take (i := 5) (oi := ⟨_, _, _, _, _, _⟩) (v := ?_) rfl (by kernel_rfl) (by kernel_rfl) (by kernel_rfl) (fun _ _ _ h => h) (Or.inl ⟨by rfl, ?_⟩) (by assumption) ?_
                      rotate_left
                      · intro w hs1; (try dsimp only at hs1); obtain ⟨s0, s1, s2, s3⟩ := hs1; first | (go_simp; done) | (go_simp; with_reducible rfl)
                      try simp only [Act.put, List.setIfInBounds_toArray, List.set_cons_zero, List.set_cons_succ]
                      refine wpAnyH_take (i := 6) (oi := ⟨_, _, _, _, _, _⟩) (v := ?_) rfl (by kernel_rfl) (by kernel_rfl) (by kernel_rfl) (fun _ _ _ h => h) (Or.inl ⟨by rfl, ?_⟩) (by assumption) ?_
                      rotate_left
                      · intro w hs1; (try dsimp only at hs1); obtain ⟨s0, s1, s2, s3⟩ := hs1; first | (go_simp; done) | (go_simp; with_reducible rfl)
                      try simp only [Act.put, List.setIfInBounds_toArray, List.set_cons_zero, List.set_cons_succ]
                      refine wpAnyH_take (i := 7) (oi := ⟨_, _, _, _, _, _⟩) (v := ?_) rfl (by kernel_rfl) (by kernel_rfl) (by kernel_rfl) (fun _ _ _ h => h) (Or.inl ⟨by rfl, ?_⟩) (by assumption) ?_
                      rotate_left
                      · intro w hs1; (try dsimp only at hs1); obtain ⟨s0, s1, s2, s3⟩ := hs1; first | (go_simp; done) | (go_simp; with_reducible rfl)
                      try simp only [Act.put, List.setIfInBounds_toArray, List.set_cons_zero, List.set_cons_succ]
                      refine wpAnyH_ready (rs := [8, 12]) (by kernel_rfl) (by simp) ?_
                      refine AllReadyH.cons (o := ⟨_, _, _, _, _, _⟩) rfl (fun KK hK => ?_) ?_
                      · go_simp
                        refine (S1.out _).mono ?_
                        rintro e w6 ⟨rfl, hb⟩
                        have BQ := hideD (beyondD BQ.out hb)
                        try (have f0 := kf _ _ hb c0 f0)
                        try (have f1 := kf _ _ hb c1 f1)
                        try (have c0 := kc _ _ hb c0)
                        try (have c1 := kc _ _ hb c1)
                        clear hb
                        refine hK.out _ _ ⟨kc _ _ BQ.out a1, kc _ _ BQ.out a2, kc _ _ BQ.out a3, kc _ _ BQ.out a4⟩ (fun hHeld => ?_)
                        clear hK KK
                        try simp only [Act.put, List.setIfInBounds_toArray, List.set_cons_zero, List.set_cons_succ]
                        refine wpAnyH_take (i := 9) (oi := ⟨_, _, _, _, _, _⟩) (v := ?_) rfl (by kernel_rfl) (by kernel_rfl) (by kernel_rfl) (fun _ _ _ h => h) (Or.inl ⟨by rfl, ?_⟩) (by assumption) ?_
                        rotate_left
                        · intro w hs1; (try dsimp only at hs1); obtain ⟨s0, s1, s2, s3⟩ := hs1; first | (go_simp; done) | (go_simp; with_reducible rfl)
                        try simp only [Act.put, List.setIfInBounds_toArray, List.set_cons_zero, List.set_cons_succ]
                        refine wpAnyH_take (i := 10) (oi := ⟨_, _, _, _, _, _⟩) (v := ?_) rfl (by kernel_rfl) (by kernel_rfl) (by kernel_rfl) (fun _ _ _ h => h) (Or.inl ⟨by rfl, ?_⟩) (by assumption) ?_
                        rotate_left
                        · intro w hs1; (try dsimp only at hs1); obtain ⟨s0, s1, s2, s3⟩ := hs1; first | (go_simp; done) | (go_simp; with_reducible rfl)
                        try simp only [Act.put, List.setIfInBounds_toArray, List.set_cons_zero, List.set_cons_succ]
                        refine wpAnyH_take (i := 11) (oi := ⟨_, _, _, _, _, _⟩) (v := ?_) rfl (by kernel_rfl) (by kernel_rfl) (by kernel_rfl) (fun _ _ _ h => h) (Or.inl ⟨by rfl, ?_⟩) (by assumption) ?_
                        rotate_left
                        · intro w hs1; (try dsimp only at hs1); obtain ⟨s0, s1, s2, s3⟩ := hs1; first | (go_simp; done) | (go_simp; with_reducible rfl)
                        try simp only [Act.put, List.setIfInBounds_toArray, List.set_cons_zero, List.set_cons_succ]
                        refine wpAnyH_ready (rs := [12]) (by kernel_rfl) (by simp) ?_
                        refine AllReadyH.cons (o := ⟨_, _, _, _, _, _⟩) rfl (fun KK hK => ?_) AllReadyH.nil
                        go_simp
                        have c0 : (w6.alloc (.cells #[.int .i64 0, .int .i64 0] 30)).cell? ⟨w6.heap.size, 0, none⟩ = some (.int .i64 0) := by simp [go_sem]
                        have c1 : (w6.alloc (.cells #[.int .i64 0, .int .i64 0] 30)).cell? ⟨w6.heap.size, 1, none⟩ = some (.int .i64 0) := by simp [go_sem]
                        have f0 : (w6.alloc (.cells #[.int .i64 0, .int .i64 0] 30)).frozen? ⟨w6.heap.size, 0, none⟩ = false := by simp [go_sem]
                        have f1 : (w6.alloc (.cells #[.int .i64 0, .int .i64 0] 30)).frozen? ⟨w6.heap.size, 1, none⟩ = false := by simp [go_sem]
                        have qs : wc.heap.size ≤ w6.heap.size := BQ.out.size
                        have BQ := hideD (beyondD BQ.out (single w6 (.cells #[.int .i64 0, .int .i64 0] 30)))
                        generalize w6.alloc (.cells #[.int .i64 0, .int .i64 0] 30) = wq at *
                        generalize w6.heap.size = q at *
                        refine hK.out _ _ ⟨kc _ _ BQ.out a1, kc _ _ BQ.out a2, kc _ _ BQ.out a3, kc _ _ BQ.out a4⟩ (fun hHeld => ?_)
                        clear hK KK
                        try simp only [Act.put, List.setIfInBounds_toArray, List.set_cons_zero, List.set_cons_succ]
                        refine wpAnyH_ready (rs := [13]) (by kernel_rfl) (by simp) ?_
                        refine AllReadyH.cons (o := ⟨_, _, _, _, _, _⟩) rfl (fun KK hK => ?_) AllReadyH.nil
                        go_simp
                        have BQ := hideD (set2 (o1 := 0) (o2 := 1) BQ.out qs (.int .i64 n3) (.int .i64 d3))
                        have z0 : ((wq.setCell ⟨q, 0, none⟩ (.int .i64 n3)).setCell ⟨q, 1, none⟩ (.int .i64 d3)).cell? ⟨q, 0, none⟩ = some (.int .i64 n3) := by simp [go_sem, *]
                        have z1 : ((wq.setCell ⟨q, 0, none⟩ (.int .i64 n3)).setCell ⟨q, 1, none⟩ (.int .i64 d3)).cell? ⟨q, 1, none⟩ = some (.int .i64 d3) := by simp [go_sem, *]
                        refine hK.out _ _ ⟨kc _ _ BQ.out a1, kc _ _ BQ.out a2, kc _ _ BQ.out a3, kc _ _ BQ.out a4⟩ (fun hHeld => ?_)
                        clear hK KK
                        try simp only [Act.put, List.setIfInBounds_toArray, List.set_cons_zero, List.set_cons_succ]
                        refine wpAnyH_take (i := 14) (oi := ⟨_, _, _, _, _, _⟩) (v := ?_) rfl (by kernel_rfl) (by kernel_rfl) (by kernel_rfl) (fun _ _ _ h => h) (Or.inl ⟨by rfl, ?_⟩) (by assumption) ?_
                        rotate_left
                        · intro w hs1; (try dsimp only at hs1); obtain ⟨s0, s1, s2, s3⟩ := hs1; first | (go_simp; done) | (go_simp; with_reducible rfl)
                        try simp only [Act.put, List.setIfInBounds_toArray, List.set_cons_zero, List.set_cons_succ]
                        refine wpAnyH_done (by kernel_rfl) ?_ _
                        go_wp2_with fail
                        go_meet
                        exact ⟨_, rfl, rfl, z0, z1, BQ.out⟩
                      refine AllReadyH.cons (o := ⟨_, _, _, _, _, _⟩) rfl (fun KK hK => ?_) AllReadyH.nil
                      go_simp
                      have c0 : ((wc.alloc (.cells #[.int .i64 0, .int .i64 0] 30)).drew).cell? ⟨wc.heap.size, 0, none⟩ = some (.int .i64 0) := by simp [go_sem]
                      have c1 : ((wc.alloc (.cells #[.int .i64 0, .int .i64 0] 30)).drew).cell? ⟨wc.heap.size, 1, none⟩ = some (.int .i64 0) := by simp [go_sem]
                      have f0 : ((wc.alloc (.cells #[.int .i64 0, .int .i64 0] 30)).drew).frozen? ⟨wc.heap.size, 0, none⟩ = false := by simp [go_sem]
                      have f1 : ((wc.alloc (.cells #[.int .i64 0, .int .i64 0] 30)).drew).frozen? ⟨wc.heap.size, 1, none⟩ = false := by simp [go_sem]
                      have qs : wc.heap.size ≤ wc.heap.size := Nat.le_refl _
                      have BQ := hideD ((single wc (.cells #[.int .i64 0, .int .i64 0] 30)).drew)
                      generalize (wc.alloc (.cells #[.int .i64 0, .int .i64 0] 30)).drew = wq at *
                      skip
                      refine hK.out _ _ ⟨kc _ _ BQ.out a1, kc _ _ BQ.out a2, kc _ _ BQ.out a3, kc _ _ BQ.out a4⟩ (fun hHeld => ?_)
                      clear hK KK
                      try simp only [Act.put, List.setIfInBounds_toArray, List.set_cons_zero, List.set_cons_succ]
                      refine wpAnyH_ready (rs := [8]) (by kernel_rfl) (by simp) ?_
                      refine AllReadyH.cons (o := ⟨_, _, _, _, _, _⟩) rfl (fun KK hK => ?_) AllReadyH.nil
                      go_simp
                      refine (S1.out _).mono ?_
                      rintro e w6 ⟨rfl, hb⟩
                      have BQ := hideD (beyondD BQ.out hb)
                      try (have f0 := kf _ _ hb c0 f0)
                      try (have f1 := kf _ _ hb c1 f1)
                      try (have c0 := kc _ _ hb c0)
                      try (have c1 := kc _ _ hb c1)
                      clear hb
                      refine hK.out _ _ ⟨kc _ _ BQ.out a1, kc _ _ BQ.out a2, kc _ _ BQ.out a3, kc _ _ BQ.out a4⟩ (fun hHeld => ?_)
                      clear hK KK
                      try simp only [Act.put, List.setIfInBounds_toArray, List.set_cons_zero, List.set_cons_succ]
                      refine wpAnyH_take (i := 9) (oi := ⟨_, _, _, _, _, _⟩) (v := ?_) rfl (by kernel_rfl) (by kernel_rfl) (by kernel_rfl) (fun _ _ _ h => h) (Or.inl ⟨by rfl, ?_⟩) (by assumption) ?_
                      rotate_left
                      · intro w hs1; (try dsimp only at hs1); obtain ⟨s0, s1, s2, s3⟩ := hs1; first | (go_simp; done) | (go_simp; with_reducible rfl)
                      try simp only [Act.put, List.setIfInBounds_toArray, List.set_cons_zero, List.set_cons_succ]
                      refine wpAnyH_take (i := 10) (oi := ⟨_, _, _, _, _, _⟩) (v := ?_) rfl (by kernel_rfl) (by kernel_rfl) (by kernel_rfl) (fun _ _ _ h => h) (Or.inl ⟨by rfl, ?_⟩) (by assumption) ?_
                      rotate_left
                      · intro w hs1; (try dsimp only at hs1); obtain ⟨s0, s1, s2, s3⟩ := hs1; first | (go_simp; done) | (go_simp; with_reducible rfl)
                      try simp only [Act.put, List.setIfInBounds_toArray, List.set_cons_zero, List.set_cons_succ]
                      refine wpAnyH_take (i := 11) (oi := ⟨_, _, _, _, _, _⟩) (v := ?_) rfl (by kernel_rfl) (by kernel_rfl) (by kernel_rfl) (fun _ _ _ h => h) (Or.inl ⟨by rfl, ?_⟩) (by assumption) ?_
                      rotate_left
                      · intro w hs1; (try dsimp only at hs1); obtain ⟨s0, s1, s2, s3⟩ := hs1; first | (go_simp; done) | (go_simp; with_reducible rfl)
                      try simp only [Act.put, List.setIfInBounds_toArray, List.set_cons_zero, List.set_cons_succ]
                      refine wpAnyH_ready (rs := [13]) (by kernel_rfl) (by simp) ?_
                      refine AllReadyH.cons (o := ⟨_, _, _, _, _, _⟩) rfl (fun KK hK => ?_) AllReadyH.nil
                      go_simp
                      have BQ := hideD (set2 (o1 := 0) (o2 := 1) BQ.out qs (.int .i64 n3) (.int .i64 d3))
                      have z0 : ((w6.setCell ⟨wc.heap.size, 0, none⟩ (.int .i64 n3)).setCell ⟨wc.heap.size, 1, none⟩ (.int .i64 d3)).cell? ⟨wc.heap.size, 0, none⟩ = some (.int .i64 n3) := by simp [go_sem, *]
                      have z1 : ((w6.setCell ⟨wc.heap.size, 0, none⟩ (.int .i64 n3)).setCell ⟨wc.heap.size, 1, none⟩ (.int .i64 d3)).cell? ⟨wc.heap.size, 1, none⟩ = some (.int .i64 d3) := by simp [go_sem, *]
                      refine hK.out _ _ ⟨kc _ _ BQ.out a1, kc _ _ BQ.out a2, kc _ _ BQ.out a3, kc _ _ BQ.out a4⟩ (fun hHeld => ?_)
                      clear hK KK
                      try simp only [Act.put, List.setIfInBounds_toArray, List.set_cons_zero, List.set_cons_succ]
                      refine wpAnyH_take (i := 14) (oi := ⟨_, _, _, _, _, _⟩) (v := ?_) rfl (by kernel_rfl) (by kernel_rfl) (by kernel_rfl) (fun _ _ _ h => h) (Or.inl ⟨by rfl, ?_⟩) (by assumption) ?_
                      rotate_left
                      · intro w hs1; (try dsimp only at hs1); obtain ⟨s0, s1, s2, s3⟩ := hs1; first | (go_simp; done) | (go_simp; with_reducible rfl)
                      try simp only [Act.put, List.setIfInBounds_toArray, List.set_cons_zero, List.set_cons_succ]
                      refine wpAnyH_done (by kernel_rfl) ?_ _
                      go_wp2_with fail
                      go_meet
                      exact ⟨_, rfl, rfl, z0, z1, BQ.out⟩

                    case rest => as_aux_lemma =>
                      obtain ⟨g, rfl, rfl, z0, z1, hb⟩ := hcut
                      have SM2 := hideD (SM.out.past hb)
                      have c6 := kc _ _ hb c6
                      clear hb a1 a2 a3 a4 S1 SM c0
                      by_cases b1 : bb < -100
                      · go_wp2_with fail
                        clear z0 z1 c6
                        have HK : Hid (K + 1 ≤ 200) := KT.out
                        have SM10 := hideD (SM2.out.more)
                        clear SM2
                        go_roundw
                        case rel => exact ⟨K + 1, zb, c, X, by omega, HK.out, rfl, by go_num, SM10⟩
                        case measure => simp [intOf]; omega

                      · by_cases b2 : 100 < bb
                        · go_wp2_with fail
                          clear z0 z1 c6
                          have HK : Hid (K + 1 ≤ 200) := KT.out
                          have SM10 := hideD (SM2.out.more)
                          clear SM2
                          go_roundw
                          case rel => exact ⟨K + 1, zb, c, X, by omega, HK.out, rfl, by go_num, SM10⟩
                          case measure => simp [intOf]; omega

                        · cases kt : keepT bb n3 d3 with
                          | false =>
                            rw [kt] at KP
                            go_wp2_with fail
                            refine (KP.out _).mono ?_
                            rintro e w7 ⟨rfl, hb⟩
                            have SM7 := hideD (SM2.out.past hb)
                            clear hb SM2 z0 z1 c6 KP
                            go_wp2_with fail
                            have HK : Hid (K + 1 ≤ 200) := KT.out
                            have SM10 := hideD (SM7.out.more)
                            clear SM7
                            go_roundw
                            case rel => exact ⟨K + 1, zb, c, X, by omega, HK.out, rfl, by go_num, SM10⟩
                            case measure => simp [intOf]; omega

                          | true =>
                            have hv := keepT_holds FR.out ⟨by omega, by omega⟩ kt
                            rw [kt] at KP
                            rw [ED.out] at hv
                            obtain ⟨c', st', U⟩ := SM2.out.st.con (v := bb) hn3 HM.out KT.out IL.out.1 IL.out.2 (by omega) (by omega) hv
                            have ST' := hideD st'
                            have U := hideD U
                            clear st' hv
                            go_wp2_with fail
                            refine (KP.out _).mono ?_
                            rintro e w7 ⟨rfl, hb⟩
                            have SM7 := hideD (SM2.out.past hb)
                            have c6 := kc _ _ hb c6
                            clear hb SM2 z0 z1 KP b1 b2
                            have bs := single w7 (.cells #[.int .i64 (i0 : Int), .int .i64 (j0 : Int), .int .i32 bb] 43)
                            have UU := hideD (U.out (w7.alloc (.cells #[.int .i64 (i0 : Int), .int .i64 (j0 : Int), .int .i32 bb] 43)) zb w7.heap.size (SM7.out.z.past bs) (by simp [go_sem]) (by simp [go_sem]) (by simp [go_sem])).out
                            have SM8 := hideD (SM7.out.past bs)
                            clear bs SM7 U
                            go_wp2_with fail
                            refine UU.out.mono ?_
                            rintro e w8 ⟨⟨zb2, zlo, rfl, hz⟩, hb⟩
                            have SM8b : Hid (StM _ w8 vb n m zb2 c' X (K + 1)) := ⟨ST'.out, hz, SM8.out.v.past hb, beyondD SM8.out.below hb, by have := SM8.out.vlt; omega, SM8.out.lo⟩
                            clear zlo hz hb UU SM8 ST' c6
                            have HK : Hid (K + 1 ≤ 200) := KT.out
                            have H1 : Hid (Calls Try.prog 14 #[.pointer (some ⟨zb2, 0, none⟩)] w8 fun e w'' => e = .returned (.bool false) ∧ Below w8.heap.size w8 w'') := by
                              have := empty_any zb2 n c' w8 (by omega) SM8b.out.z
                              rw [SM8b.out.st.some HM.out] at this
                              exact this
                            have H2 : Hid (∀ W, Below w8.heap.size w8 W → Calls Try.prog 15 #[.pointer (some ⟨zb2, 0, none⟩), .slice (some ⟨vb, 0, none⟩) N N] W fun e w'' => e = .returned (.bool true) ∧ Below W.heap.size W w'') := fun W hb => by
                              have := lholds_any hn3 HM.out HK.out SM8b.out.st zb2 vb W (SM8b.out.z.past hb) (SM8b.out.v.past hb).at
                              rw [show n + 1 = N from HN.out.symm] at this
                              exact this
                            go_wp2_with fail
                            refine H1.out.mono ?_
                            rintro e w9 ⟨rfl, hb⟩
                            have H3 := hideD (H2.out w9 hb)
                            have SM9 := hideD (SM8b.out.past hb)
                            clear H1 H2 hb SM8b
                            go_wp2_with fail
                            refine H3.out.mono ?_
                            rintro e w10 ⟨rfl, hb⟩
                            have SM10 := hideD (SM9.out.past hb)
                            clear H3 SM9 hb
                            go_wp2_with fail
                            go_roundw
                            case rel => exact ⟨K + 1, zb2, c', X, by omega, HK.out, rfl, by go_num, SM10⟩
                            case measure => simp [intOf]; omega
          · have k0 : (0 : Int) ≤ (K : Int) := by omega
            have k1 : (K : Int) < (q : Int) := by omega
            have k2 : ¬ (K : Int) < 200 := by omega
            as_aux_lemma =>
              have D1 := hideD (dim_any zb n c wr SM.out.z)
              have H2 : Hid (∀ W, Below wr.heap.size wr W → Calls Try.prog 15 #[.pointer (some ⟨zb, 0, none⟩), .slice (some ⟨vb, 0, none⟩) N N] W fun e w'' => e = .returned (.bool true) ∧ Below W.heap.size W w'') := fun W hb => by
                have := lholds_any hn3 HM.out hK2 SM.out.st zb vb W (SM.out.z.past hb) (SM.out.v.past hb).at
                rw [show n + 1 = N from HN.out.symm] at this
                exact this
              go_wp2_with fail
              refine D1.out.mono ?_
              rintro e w4 ⟨rfl, rfl⟩
              go_wp2_with fail
              refine (H2.out _ (Below.refl _ _)).mono ?_
              rintro e w5 ⟨rfl, hb⟩
              have BB := hideD (beyondD SM.out.below hb)
              clear hb D1 H2 SM
              go_wp2_with fail
              go_ret
              exact ⟨by first | rfl | simp, BB.out⟩
        · have k1 : ¬ (K : Int) < (q : Int) := by omega
          as_aux_lemma =>
            have D1 := hideD (dim_any zb n c wr SM.out.z)
            have H2 : Hid (∀ W, Below wr.heap.size wr W → Calls Try.prog 15 #[.pointer (some ⟨zb, 0, none⟩), .slice (some ⟨vb, 0, none⟩) N N] W fun e w'' => e = .returned (.bool true) ∧ Below W.heap.size W w'') := fun W hb => by
              have := lholds_any hn3 HM.out hK2 SM.out.st zb vb W (SM.out.z.past hb) (SM.out.v.past hb).at
              rw [show n + 1 = N from HN.out.symm] at this
              exact this
            go_wp2_with fail
            refine D1.out.mono ?_
            rintro e w4 ⟨rfl, rfl⟩
            go_wp2_with fail
            refine (H2.out _ (Below.refl _ _)).mono ?_
            rintro e w5 ⟨rfl, hb⟩
            have BB := hideD (beyondD SM.out.below hb)
            clear hb D1 H2 SM
            go_wp2_with fail
            go_ret
            exact ⟨by first | rfl | simp, BB.out⟩
end Go.Proofs.Ytjanibholjimkaa
