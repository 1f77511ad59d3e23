/-
  fed: the document's Right, keeps, clock of gnomonref06 (out of Mv0, Mv2, Mv3).
-/
import Derived.Test.YtnfkmpickmonoaaGreatQ42
import Derived.Test.YtnfkmpickmonoaaGreatQ47
namespace Go.Proofs.YtnfkmpickmonoaaGreat
open Go.RowKit Go.Shelf
set_option linter.unusedVariables false
set_option maxRecDepth 100000
theorem rightL_split {L : Rats} {q : Nat} (hq : L.q = q) (h : okL6 L q = true) : rightL L = decide ((q : Int) ≤ 8) := by
  unfold rightL
  rw [hq, h, Bool.and_true]
  rw [decide_eq_decide]
  omega
theorem rightL_no {L : Rats} {q : Nat} (hq : L.q = q) (h : okL6 L q = false) : rightL L = false := by
  unfold rightL
  rw [hq, h, Bool.and_false]
set_option maxHeartbeats 2000000 in
theorem rright6_any (ad : Option Addr) (cap q : Nat) (L : Rats) (w : World) (hq : L.q = q) (q1 : q ≤ 9223372036854775807) (hV : RatV w ad L) (hI : RatI L) :
    Calls Tryz.prog 69 #[.slice ad q cap] w fun e w' => e = .returned (.bool (rightL L)) ∧ Below w.heap.size w w' := by
  have HV := hideR hV
  have HI := hideR hI
  have HQ := hideR hq
  clear hV hI hq
  go_enter Tryz.func69, Tryz.ntmps69
  go_wp2_with fail
  go_loopw [3] (fun s wr => ∃ (K : Nat), K ≤ q ∧ s = .int .i64 (K : Int) ∧ Hid (okL6 L K = true) ∧ Hid (Below w.heap.size w wr)) (fun s _ => q - (intOf s).toNat)
  case atStart => exact ⟨0, by omega, rfl, rfl, Below.refl _ _⟩
  case round =>
    obtain ⟨K, hK, rfl, O, B⟩ := hrel
    by_cases ck : K < q
    · obtain ⟨b, off, rfl, c0, c1⟩ := (HV.out.later B.out) K (by rw [HQ.out]; exact ck)
      have k0 : (K : Int) < (q : Int) := by omega
      have k1 : (0 : Int) ≤ (K : Int) := by omega
      have iK := HI.out K (by rw [HQ.out]; exact ck)
      have HR := hideR (askY (L.n K) (L.d K) iK.1 iK.2)
      have ON : Hid (okL6 L (K + 1) = okR (L.n K) (L.d K)) := by show _ = _; rw [okL6, O.out]; simp
      clear iK
      generalize L.n K = x at *
      generalize L.d K = y at *
      cases o : rightR x y with
      | false =>
        rw [o] at HR
        have F : Hid (rightL L = false) := rightL_no HQ.out (okL_false q (show K + 1 ≤ q by omega) (by rw [ON.out]; simp [okR, o]))
        clear ON
        go_wp2_with fail
        refine (HR.out _).mono ?_
        rintro e w1 ⟨rfl, hb⟩
        have B1 := hideR (beyond B.out hb)
        clear hb B HR c0 c1
        go_wp2_with fail
        go_ret
        exact ⟨by rw [F.out]; rfl, B1.out⟩
      | true =>
        rw [o] at HR
        by_cases x0 : x < 0
        · have F : Hid (rightL L = false) := rightL_no HQ.out (okL_false q (show K + 1 ≤ q by omega) (by rw [ON.out]; simp [okR, o, x0]))
          clear ON
          go_wp2_with fail
          refine (HR.out _).mono ?_
          rintro e w1 ⟨rfl, hb⟩
          have B1 := hideR (beyond B.out hb)
          have c0 := kc _ _ hb c0
          clear hb B HR c1
          go_wp2_with fail
          go_ret
          exact ⟨by rw [F.out]; rfl, B1.out⟩
        · have ON2 : Hid (okL6 L (K + 1) = true) := by show _ = _; rw [ON.out]; simp [okR, o]; omega
          clear ON
          go_wp2_with fail
          refine (HR.out _).mono ?_
          rintro e w1 ⟨rfl, hb⟩
          have B1 := hideR (beyond B.out hb)
          have c0 := kc _ _ hb c0
          clear hb B HR c1
          go_wp2_with fail
          go_roundw
          case rel => exact ⟨K + 1, by omega, by go_num, ON2, B1⟩
          case measure => simp [intOf]; omega
    · have eK : K = q := by omega
      have F : Hid (rightL L = decide ((q : Int) ≤ 8)) := rightL_split HQ.out (by rw [← eK]; exact O.out)
      have k0 : ¬ (K : Int) < (q : Int) := by omega
      clear eK O
      go_wp2_with fail
      go_ret
      exact ⟨by rw [F.out]; rfl, B.out⟩
theorem okL_get {L : Rats} : ∀ {m : Nat}, okL6 L m = true → ∀ k, k < m → okR (L.n k) (L.d k) = true
  | 0, _, k, hk => by omega
  | m + 1, h, k, hk => by
    rw [okL6] at h
    simp only [Bool.and_eq_true] at h
    by_cases e : k = m
    · subst e; exact h.2
    · exact okL_get h.1 k (by omega)
theorem rightL_at {L : Rats} (h : rightL L = true) : L.q ≤ 8 ∧ ∀ k, k < L.q → okR (L.n k) (L.d k) = true := by
  unfold rightL at h
  simp only [Bool.and_eq_true, decide_eq_true_eq] at h
  exact ⟨h.1, okL_get h.2⟩
theorem valV_bd6 (b : Int) : -268435456 ≤ valV b ∧ valV b ≤ 268435456 := by
  unfold valV
  split
  · rename_i h
    simp only [finB, decide_eq_true_eq] at h
    omega
  · omega
theorem div_facts {n d : Int} (h : okR n d = true) (hn : I64 n) : n.tdiv d = n / d ∧ n.tmod d = n % d ∧ 0 ≤ n % d ∧ n % d < d ∧ 0 ≤ n / d ∧ n / d ≤ n ∧ 0 < d := by
  obtain ⟨r, n0⟩ := okR_iff.1 h
  have p := (right_pos r).1
  have a1 := Int.emod_nonneg n (show d ≠ 0 by omega)
  have a2 := Int.emod_lt_of_pos n p
  have a3 := Int.ediv_nonneg n0 (show 0 ≤ d by omega)
  have a4 := Int.ediv_le_self d n0
  exact ⟨Int.tdiv_eq_ediv_of_nonneg n0, Int.tmod_eq_emod_of_nonneg n0, a1, a2, a3, a4, p⟩
set_option maxHeartbeats 1000000 in
theorem rfloor6 (n d : Int) (w : World) (hn : I64 n) (hd : I64 d) (h : okR n d = true) : Calls Tryz.prog 120 #[rv n d] w fun e w' => e = .returned (.int .i64 (n / d)) ∧ Below w.heap.size w w' := by
  have HR := hideR (askY n d hn hd)
  rw [(okR_iff.1 h).1] at HR
  obtain ⟨e1, e2, e3, e4, e5, e6, e7⟩ := div_facts h hn
  have B0 := hideR (single w (.cells #[.int .i64 n, .int .i64 d] 140))
  have z : ¬ d = 0 := by omega
  have c : ¬ n.tmod d < 0 := by omega
  have w1 : IntKind.i64.wrap (n.tdiv d) = n.tdiv d := by rw [IntKind.wrap_i64]; have := hn.2; omega
  have w2 : IntKind.i64.wrap (n.tmod d) = n.tmod d := by rw [IntKind.wrap_i64]; have := hd.2; omega
  rw [← e1]
  clear h hn hd e1 e2 e3 e4 e5 e6 e7
  go_enter Tryz.func120, Tryz.ntmps120
  go_wp2_with fail
  refine (HR.out _).mono ?_
  rintro e w1 ⟨rfl, hb⟩
  have s0 := kc ⟨w.heap.size, 0, none⟩ (.int .i64 n) hb (by simp [go_sem])
  have s1 := kc ⟨w.heap.size, 1, none⟩ (.int .i64 d) hb (by simp [go_sem])
  have B1 := hideR (beyond B0.out hb)
  clear hb HR B0
  go_wp2_with fail
  go_ret
  exact ⟨by first | rfl | simp [*], B1.out⟩
set_option maxHeartbeats 1000000 in
theorem rfrac6 (n d : Int) (w : World) (hn : I64 n) (hd : I64 d) (h : okR n d = true) : Calls Tryz.prog 122 #[rv n d] w fun e w' => e = .returned (rv (n % d) d) ∧ Below w.heap.size w w' := by
  have HR := hideR (askY n d hn hd)
  rw [(okR_iff.1 h).1] at HR
  obtain ⟨e1, e2, e3, e4, e5, e6, e7⟩ := div_facts h hn
  have B0 := hideR (two w (.cells #[.int .i64 n, .int .i64 d] 140) (.cells #[.int .i64 0, .int .i64 0] 140))
  have z : ¬ d = 0 := by omega
  have c : ¬ n.tmod d < 0 := by omega
  have w2 : IntKind.i64.wrap (n.tmod d) = n.tmod d := by rw [IntKind.wrap_i64]; have := hd.2; omega
  rw [← e2]
  clear h hn hd e1 e2 e3 e4 e5 e6 e7
  go_enter Tryz.func122, Tryz.ntmps122
  go_wp2_with fail
  refine (HR.out _).mono ?_
  rintro e w1 ⟨rfl, hb⟩
  have s0 := kc ⟨w.heap.size, 0, none⟩ (.int .i64 n) hb (by simp [go_sem])
  have s1 := kc ⟨w.heap.size, 1, none⟩ (.int .i64 d) hb (by simp [go_sem])
  have s2 := kc ⟨w.heap.size + 1, 0, none⟩ (.int .i64 0) hb (by simp [go_sem])
  have s3 := kc ⟨w.heap.size + 1, 1, none⟩ (.int .i64 0) hb (by simp [go_sem])
  have s4 := kf ⟨w.heap.size + 1, 0, none⟩ (.int .i64 0) hb (by simp [go_sem]) (by simp [go_sem])
  have s5 := kf ⟨w.heap.size + 1, 1, none⟩ (.int .i64 0) hb (by simp [go_sem]) (by simp [go_sem])
  have hB := hideR (beyond B0.out hb)
  clear hb HR B0
  go_wp2_with fail
  refine bodyPost_ret (v := rv (n.tmod d) d) (by simp [results, Tryz.results122, go_sem, *]) rfl ⟨rfl, ?_⟩
  exact set2 hB.out (by omega) _ _
set_option maxHeartbeats 2000000 in
theorem rkeeps_any (an ad bn bd b : Int) (w : World) (ia : I64 an) (ja : I64 ad) (ib : I64 bn) (jb : I64 bd) (ha : okR an ad = true) (hb : okR bn bd = true) (hf : finB b = true) :
    Calls Tryz.prog 93 #[rv an ad, rv bn bd, .int .i32 b] w fun e w' => e = .returned (.bool (keepB b an ad bn bd)) ∧ Below w.heap.size w w' := by
  have HA := hideR (fun W => rfloor6 an ad W ia ja ha)
  have HB := hideR (fun W => rfloor6 bn bd W ib jb hb)
  have HU := hideR (fun W => rfrac6 an ad W ia ja ha)
  have HV := hideR (fun W => rfrac6 bn bd W ib jb hb)
  obtain ⟨-, -, a1, a2, a3, a4, a5⟩ := div_facts ha ia
  obtain ⟨-, -, b1, b2, b3, b4, b5⟩ := div_facts hb ib
  have HW := hideR (fun W => xcmp_any (an % ad) ad (bn % bd) bd W ⟨by omega, by have := ja.2; omega⟩ ja ⟨by omega, by have := jb.2; omega⟩ jb)
  have rr : cmpT (an % ad) ad (bn % bd) bd = cmpV (an % ad) ad (bn % bd) bd := by
    unfold cmpT
    rw [rest_right (okR_iff.1 ha).1 (okR_iff.1 ha).2, rest_right (okR_iff.1 hb).1 (okR_iff.1 hb).2]
    rfl
  rw [rr] at HW
  have HVl := hideR (fun W => rvalue_any b W (by simp only [finB, decide_eq_true_eq] at hf; omega) (by simp only [finB, decide_eq_true_eq] at hf; omega))
  rw [hf] at HVl
  have vb := valV_bd6 b
  have EK : Hid (keepB b an ad bn bd = (decide (an / ad - bn / bd < valV b) || (decide (an / ad - bn / bd = valV b) && (decide (cmpV (an % ad) ad (bn % bd) bd < 0) || (decide (cmpV (an % ad) ad (bn % bd) bd = 0) && valR b))))) := by
    show _ = _
    unfold keepB gapV
    rw [hf]
    by_cases c1 : an / ad - bn / bd < valV b
    · simp [c1]
    · by_cases c2 : valV b < an / ad - bn / bd
      · have c3 : ¬ an / ad - bn / bd = valV b := by omega
        simp [c1, c2, c3]
      · have c3 : an / ad - bn / bd = valV b := by omega
        simp [c3]
  have xa := ia.2
  have xb := ib.2
  obtain ⟨x, hx⟩ : ∃ x, x = an / ad := ⟨_, rfl⟩
  obtain ⟨y, hy⟩ : ∃ y, y = bn / bd := ⟨_, rfl⟩
  rw [← hx] at HA EK a3 a4
  rw [← hy] at HB EK b3 b4
  have x1 : -9223372036854775808 ≤ x - y := by omega
  have x2 : x - y ≤ 9223372036854775807 := by omega
  clear hx hy rr ia ja ib jb ha hb hf a1 a2 a5 b1 b2 b5
  generalize cmpV (an % ad) ad (bn % bd) bd = r at *
  generalize an % ad = u at *
  generalize bn % bd = v at *
  generalize valV b = vv at *
  generalize valR b = vr at *
  obtain ⟨T, hT⟩ : ∃ T, T = keepB b an ad bn bd := ⟨_, rfl⟩
  rw [← hT] at EK ⊢
  clear hT a4 b4 xa xb
  have wx : wrap64 (x - y) = x - y := by unfold wrap64; omega
  have wx' : IntKind.i64.wrap (x - y) = x - y := by rw [IntKind.wrap_i64, ← wrap64]; exact wx
  have B0 := hideR (two w (.cells #[.int .i64 an, .int .i64 ad] 140) (.cells #[.int .i64 bn, .int .i64 bd] 140))
  have c0 : ((w.alloc (.cells #[.int .i64 an, .int .i64 ad] 140)).alloc (.cells #[.int .i64 bn, .int .i64 bd] 140)).cell? ⟨w.heap.size, 0, none⟩ = some (.int .i64 an) := by simp [go_sem]
  have c1 : ((w.alloc (.cells #[.int .i64 an, .int .i64 ad] 140)).alloc (.cells #[.int .i64 bn, .int .i64 bd] 140)).cell? ⟨w.heap.size, 1, none⟩ = some (.int .i64 ad) := by simp [go_sem]
  have c2 : ((w.alloc (.cells #[.int .i64 an, .int .i64 ad] 140)).alloc (.cells #[.int .i64 bn, .int .i64 bd] 140)).cell? ⟨w.heap.size + 1, 0, none⟩ = some (.int .i64 bn) := by simp [go_sem]
  have c3 : ((w.alloc (.cells #[.int .i64 an, .int .i64 ad] 140)).alloc (.cells #[.int .i64 bn, .int .i64 bd] 140)).cell? ⟨w.heap.size + 1, 1, none⟩ = some (.int .i64 bd) := by simp [go_sem]
  go_enter Tryz.func93, Tryz.ntmps93
  go_wp2_with fail
  generalize ((w.alloc (.cells #[.int .i64 an, .int .i64 ad] 140)).alloc (.cells #[.int .i64 bn, .int .i64 bd] 140)) = W at *
  refine (HVl.out _).mono ?_
  rintro e w1 ⟨rfl, e1⟩
  obtain rfl := e1.symm
  clear HVl e1
  have B1 := Below.refl W.heap.size W
  go_upto_region 4 with (fail)
  go_cut [10] (fun t w' => t = .int .i64 (x - y) ∧ Below W.heap.size W w' ∧ w'.cell? ⟨w.heap.size, 0, none⟩ = some (.int .i64 an) ∧ w'.cell? ⟨w.heap.size, 1, none⟩ = some (.int .i64 ad) ∧ w'.cell? ⟨w.heap.size + 1, 0, none⟩ = some (.int .i64 bn) ∧ w'.cell? ⟨w.heap.size + 1, 1, none⟩ = some (.int .i64 bd))
  case first =>
    go_region_held3 (fun w' => Below W.heap.size W w' ∧ w'.cell? ⟨w.heap.size, 0, none⟩ = some (.int .i64 an) ∧ w'.cell? ⟨w.heap.size, 1, none⟩ = some (.int .i64 ad) ∧ w'.cell? ⟨w.heap.size + 1, 0, none⟩ = some (.int .i64 bn) ∧ w'.cell? ⟨w.heap.size + 1, 1, none⟩ = some (.int .i64 bd))
      (first | exact ⟨by first | with_reducible assumption | (apply Below.drew; assumption), by first | with_reducible assumption | assumption, by first | with_reducible assumption | assumption, by first | with_reducible assumption | assumption, by first | with_reducible assumption | assumption⟩ | go_keep)
      (first
        | (go_at_call 120; first | (with_reducible refine (HA.out _).mono ?_; rintro e w' ⟨rfl, hb⟩; have s0 := kc ⟨w.heap.size, 0, none⟩ (.int .i64 an) hb (by first | assumption | simp [go_sem, *]); have s1 := kc ⟨w.heap.size, 1, none⟩ (.int .i64 ad) hb (by first | assumption | simp [go_sem, *]); have s2 := kc ⟨w.heap.size + 1, 0, none⟩ (.int .i64 bn) hb (by first | assumption | simp [go_sem, *]); have s3 := kc ⟨w.heap.size + 1, 1, none⟩ (.int .i64 bd) hb (by first | assumption | simp [go_sem, *]); have s4 := beyond (w := W) (by first | assumption | (apply Below.drew; assumption)) hb) | (with_reducible refine (HB.out _).mono ?_; rintro e w' ⟨rfl, hb⟩; have s0 := kc ⟨w.heap.size, 0, none⟩ (.int .i64 an) hb (by first | assumption | simp [go_sem, *]); have s1 := kc ⟨w.heap.size, 1, none⟩ (.int .i64 ad) hb (by first | assumption | simp [go_sem, *]); have s2 := kc ⟨w.heap.size + 1, 0, none⟩ (.int .i64 bn) hb (by first | assumption | simp [go_sem, *]); have s3 := kc ⟨w.heap.size + 1, 1, none⟩ (.int .i64 bd) hb (by first | assumption | simp [go_sem, *]); have s4 := beyond (w := W) (by first | assumption | (apply Below.drew; assumption)) hb)))
    all_goals go_wp2_with fail
    all_goals go_meet
    all_goals exact ⟨by first | rfl | simp [*], by first | with_reducible assumption | (apply Below.drew; assumption), by with_reducible assumption, by with_reducible assumption, by with_reducible assumption, by with_reducible assumption⟩
  case rest =>
    clear c0 c1 c2 c3 B1 HA HB wx wx'
    obtain ⟨rfl, B1, c0, c1, c2, c3⟩ := hcut
    go_upto_region 5 with (fail)
    go_cut [11] (fun t w' => t = .int .i64 r ∧ Below W.heap.size W w')
    case first =>
      go_region_held3 (fun w' => Below W.heap.size W w' ∧ w'.cell? ⟨w.heap.size, 0, none⟩ = some (.int .i64 an) ∧ w'.cell? ⟨w.heap.size, 1, none⟩ = some (.int .i64 ad) ∧ w'.cell? ⟨w.heap.size + 1, 0, none⟩ = some (.int .i64 bn) ∧ w'.cell? ⟨w.heap.size + 1, 1, none⟩ = some (.int .i64 bd))
        (first | exact ⟨by first | with_reducible assumption | (apply Below.drew; assumption), by first | with_reducible assumption | assumption, by first | with_reducible assumption | assumption, by first | with_reducible assumption | assumption, by first | with_reducible assumption | assumption⟩ | go_keep)
        (first
          | (go_at_call 122; first | (with_reducible refine (HU.out _).mono ?_; rintro e w' ⟨rfl, hb⟩; have s0 := kc ⟨w.heap.size, 0, none⟩ (.int .i64 an) hb (by first | assumption | simp [go_sem, *]); have s1 := kc ⟨w.heap.size, 1, none⟩ (.int .i64 ad) hb (by first | assumption | simp [go_sem, *]); have s2 := kc ⟨w.heap.size + 1, 0, none⟩ (.int .i64 bn) hb (by first | assumption | simp [go_sem, *]); have s3 := kc ⟨w.heap.size + 1, 1, none⟩ (.int .i64 bd) hb (by first | assumption | simp [go_sem, *]); have s4 := beyond (w := W) (by first | assumption | (apply Below.drew; assumption)) hb) | (with_reducible refine (HV.out _).mono ?_; rintro e w' ⟨rfl, hb⟩; have s0 := kc ⟨w.heap.size, 0, none⟩ (.int .i64 an) hb (by first | assumption | simp [go_sem, *]); have s1 := kc ⟨w.heap.size, 1, none⟩ (.int .i64 ad) hb (by first | assumption | simp [go_sem, *]); have s2 := kc ⟨w.heap.size + 1, 0, none⟩ (.int .i64 bn) hb (by first | assumption | simp [go_sem, *]); have s3 := kc ⟨w.heap.size + 1, 1, none⟩ (.int .i64 bd) hb (by first | assumption | simp [go_sem, *]); have s4 := beyond (w := W) (by first | assumption | (apply Below.drew; assumption)) hb))
          | (go_at_call 121; refine (HW.out _).mono ?_; rintro e w' ⟨rfl, hb⟩; have s0 := kc ⟨w.heap.size, 0, none⟩ (.int .i64 an) hb (by first | assumption | simp [go_sem, *]); have s1 := kc ⟨w.heap.size, 1, none⟩ (.int .i64 ad) hb (by first | assumption | simp [go_sem, *]); have s2 := kc ⟨w.heap.size + 1, 0, none⟩ (.int .i64 bn) hb (by first | assumption | simp [go_sem, *]); have s3 := kc ⟨w.heap.size + 1, 1, none⟩ (.int .i64 bd) hb (by first | assumption | simp [go_sem, *]); have s4 := beyond (w := W) (by first | assumption | (apply Below.drew; assumption)) hb))
      all_goals go_wp2_with fail
      all_goals go_meet
      all_goals exact ⟨rfl, by first | with_reducible assumption | (apply Below.drew; assumption)⟩
    case rest =>
      clear c0 c1 c2 c3 B1 HU HV HW
      obtain ⟨rfl, B1⟩ := hcut
      have BF := hideR (beyond B0.out B1)
      clear B1 B0
      by_cases k1 : x - y < vv
      · have k2 : ((x - y) != vv) = true := by simp; omega
        have E : Hid (T = true) := by show _ = _; rw [EK.out]; simp [k1]
        go_wp2_with fail
        go_ret
        exact ⟨by rw [E.out]; rfl, BF.out⟩
      · by_cases k3 : x - y = vv
        · have k2 : ((x - y) != vv) = false := by simp; omega
          by_cases r1 : r < 0
          · have E : Hid (T = true) := by show _ = _; rw [EK.out]; simp [k3, r1]
            clear k3 k1 EK
            go_wp2_with fail
            go_ret
            exact ⟨by rw [E.out]; rfl, BF.out⟩
          · by_cases r2 : r = 0
            · have E : Hid (T = vr) := by show _ = _; rw [EK.out]; simp [k3, r2]
              subst r2
              clear k3 k1 r1 EK
              go_wp2_with fail
              go_ret
              exact ⟨by rw [E.out]; rfl, BF.out⟩
            · have E : Hid (T = false) := by show _ = _; rw [EK.out]; simp [k3, r1, r2]
              clear k3 k1 EK
              go_wp2_with fail
              go_ret
              exact ⟨by rw [E.out]; first | rfl | simp [*], BF.out⟩
        · have k2 : ((x - y) != vv) = true := by simp; omega
          have E : Hid (T = false) := by show _ = _; rw [EK.out]; simp [k1, k3]
          have k1' : decide (x - y < vv) = false := decide_eq_false k1
          clear k3 EK
          go_wp2_with fail
          go_ret
          exact ⟨by rw [E.out]; first | rfl | simp [*], BF.out⟩
theorem ahead_ok {L : Rats} (hr : rightL L = true) (hI : RatI L) (i : Nat) (hi : i ≤ L.q) : I64 ((aheadL L).n i) ∧ I64 ((aheadL L).d i) ∧ okR ((aheadL L).n i) ((aheadL L).d i) = true := by
  unfold aheadL
  by_cases e : i = 0
  · simp only [e, if_true]
    exact ⟨by decide, by decide, by decide⟩
  · simp only [e, if_false]
    have h1 := hI (i - 1) (by omega)
    exact ⟨h1.1, h1.2, (rightL_at hr).2 (i - 1) (by omega)⟩
theorem rzero6 (w : World) : Calls Tryz.prog 123 #[] w fun e w' => e = .returned (rv 0 1) ∧ Below w.heap.size w w' := by
  go_enter Tryz.func123, Tryz.ntmps123
  go_wp2_with fail
  first
    | (go_ret; exact ⟨rfl, Below.refl _ _⟩)
    | (refine bodyPost_ret (v := rv 0 1) (by simp [results, Tryz.results123, go_sem, *]) rfl ⟨rfl, ?_⟩; first | exact Below.refl _ _ | exact single _ _ | exact set2 (single _ _) (Nat.le_refl _) _ _)
set_option maxHeartbeats 1000000 in
theorem rclock_any (ad : Option Addr) (q cap : Nat) (L : Rats) (i : Nat) (w : World) (hq : L.q = q) (q1 : q ≤ 8) (hV : RatV w ad L) (hi : i ≤ q) :
    Calls Tryz.prog 94 #[.slice ad q cap, .int .i64 (i : Int)] w fun e w' => e = .returned (rv ((aheadL L).n i) ((aheadL L).d i)) ∧ Below w.heap.size w w' := by
  have Ba := hideR (single w (.cells #[.int .i64 0, .int .i64 0] 140))
  by_cases e : i = 0
  · subst e
    have HZ := hideR (fun W => rzero6 W)
    show Calls Tryz.prog 94 #[.slice ad q cap, .int .i64 0] w fun e w' => e = .returned (rv 0 1) ∧ Below w.heap.size w w'
    clear hV hi
    go_enter Tryz.func94, Tryz.ntmps94
    go_wp2_with fail
    refine (HZ.out _).mono ?_
    rintro e w1 ⟨rfl, hb⟩
    have s2 := kc ⟨w.heap.size, 0, none⟩ (.int .i64 0) hb (by simp [go_sem])
    have s3 := kc ⟨w.heap.size, 1, none⟩ (.int .i64 0) hb (by simp [go_sem])
    have s4 := kf ⟨w.heap.size, 0, none⟩ (.int .i64 0) hb (by simp [go_sem]) (by simp [go_sem])
    have s5 := kf ⟨w.heap.size, 1, none⟩ (.int .i64 0) hb (by simp [go_sem]) (by simp [go_sem])
    have hB := hideR (beyond Ba.out hb)
    clear hb HZ Ba
    go_wp2_with fail
    refine bodyPost_ret (v := rv 0 1) (by simp [results, Tryz.results94, go_sem, *]) rfl ⟨rfl, ?_⟩
    exact set2 hB.out (Nat.le_refl _) _ _
  · obtain ⟨b, off, rfl, c0, c1⟩ := hV (i - 1) (by omega)
    have lt0 : b < w.heap.size := World.block_lt_of_cell? _ _ c0
    have kb : ¬ w.heap.size = b := by omega
    have c0 := kc _ _ Ba.out c0
    have c1 := kc _ _ Ba.out c1
    obtain ⟨j, hj⟩ : ∃ j, j = i - 1 := ⟨_, rfl⟩
    have ea : (aheadL L).n i = L.n j ∧ (aheadL L).d i = L.d j := by
      rw [hj]
      unfold aheadL
      exact ⟨if_neg e, if_neg e⟩
    rw [ea.1, ea.2]
    rw [← hj] at c0 c1
    have ew : (i : Int) - 1 = (j : Int) := by omega
    have j0 : (0 : Int) ≤ (j : Int) := by omega
    have j1 : (j : Int) < (q : Int) := by omega
    have i0 : ((i : Int) == 0) = false := by simp; omega
    have i1 : (i : Int) ≤ 8 := by omega
    have i2 : (0 : Int) ≤ (i : Int) := by omega
    clear hV ea hj hi e hq lt0
    generalize L.n j = x at *
    generalize L.d j = y at *
    generalize (i : Int) = ii at *
    go_enter Tryz.func94, Tryz.ntmps94
    go_wp2_with fail
    refine bodyPost_ret (v := rv x y) (by simp [results, Tryz.results94, go_sem, *]) rfl ⟨rfl, ?_⟩
    first | exact set2 Ba.out (Nat.le_refl _) _ _ | exact single _ _

end Go.Proofs.YtnfkmpickmonoaaGreat
