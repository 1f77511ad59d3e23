/-
  The document's keeps: a difference of two fractions against a bound; and its clock.
-/
import Derived.Test.YtondgencdcimjaaGreatZm
import Derived.Test.YtondgencdcimjaaGreatZo
import Derived.Test.YtondgencdcimjaaGreatZb
namespace Go.Proofs.YtondgencdcimjaaGreat
open Go.RowKit Go.Shelf
set_option linter.unusedVariables false
set_option maxRecDepth 100000
theorem div_facts {n d : Int} (h : okR n d = true) (hn : I64 n) : n.tdiv d = n / d ∧ n.tmod d = n % d ∧ 0 ≤ n % d ∧ n % d < d ∧ 0 ≤ n / d ∧ n / d ≤ n ∧ 0 < d := by
  obtain ⟨r, n0⟩ := okR_iff.1 h
  have p := (right_pos r).1
  have a1 := Int.emod_nonneg n (show d ≠ 0 by omega)
  have a2 := Int.emod_lt_of_pos n p
  have a3 := Int.ediv_nonneg n0 (show 0 ≤ d by omega)
  have a4 := Int.ediv_le_self d n0
  exact ⟨Int.tdiv_eq_ediv_of_nonneg n0, Int.tmod_eq_emod_of_nonneg n0, a1, a2, a3, a4, p⟩
set_option maxHeartbeats 1000000 in
theorem rfloor6 (n d : Int) (w : World) (hn : I64 n) (hd : I64 d) (h : okR n d = true) : Calls Tryz.prog 117 #[rv n d] w fun e w' => e = .returned (.int .i64 (n / d)) ∧ Below w.heap.size w w' := by
  have HR := hideR (askY n d hn hd)
  rw [(okR_iff.1 h).1] at HR
  obtain ⟨e1, e2, e3, e4, e5, e6, e7⟩ := div_facts h hn
  have B0 := hideR (single w (.cells #[.int .i64 n, .int .i64 d] 24))
  have z : ¬ d = 0 := by omega
  have c : ¬ n.tmod d < 0 := by omega
  have w1 : IntKind.i64.wrap (n.tdiv d) = n.tdiv d := by rw [IntKind.wrap_i64]; have := hn.2; omega
  have w2 : IntKind.i64.wrap (n.tmod d) = n.tmod d := by rw [IntKind.wrap_i64]; have := hd.2; omega
  rw [← e1]
  clear h hn hd e1 e2 e3 e4 e5 e6 e7
  go_enter Tryz.func117, Tryz.ntmps117
  go_wp2_with fail
  refine (HR.out _).mono ?_
  rintro e w1 ⟨rfl, hb⟩
  have s0 := kc ⟨w.heap.size, 0, none⟩ (.int .i64 n) hb (by simp [go_sem])
  have s1 := kc ⟨w.heap.size, 1, none⟩ (.int .i64 d) hb (by simp [go_sem])
  have B1 := hideR (beyond B0.out hb)
  clear hb HR B0
  go_wp2_with fail
  go_ret
  exact ⟨by first | rfl | simp [*], B1.out⟩
set_option maxHeartbeats 1000000 in
theorem rfrac6 (n d : Int) (w : World) (hn : I64 n) (hd : I64 d) (h : okR n d = true) : Calls Tryz.prog 119 #[rv n d] w fun e w' => e = .returned (rv (n % d) d) ∧ Below w.heap.size w w' := by
  have HR := hideR (askY n d hn hd)
  rw [(okR_iff.1 h).1] at HR
  obtain ⟨e1, e2, e3, e4, e5, e6, e7⟩ := div_facts h hn
  have B0 := hideR (two w (.cells #[.int .i64 n, .int .i64 d] 24) (.cells #[.int .i64 0, .int .i64 0] 24))
  have z : ¬ d = 0 := by omega
  have c : ¬ n.tmod d < 0 := by omega
  have w2 : IntKind.i64.wrap (n.tmod d) = n.tmod d := by rw [IntKind.wrap_i64]; have := hd.2; omega
  rw [← e2]
  clear h hn hd e1 e2 e3 e4 e5 e6 e7
  go_enter Tryz.func119, Tryz.ntmps119
  go_wp2_with fail
  refine (HR.out _).mono ?_
  rintro e w1 ⟨rfl, hb⟩
  have s0 := kc ⟨w.heap.size, 0, none⟩ (.int .i64 n) hb (by simp [go_sem])
  have s1 := kc ⟨w.heap.size, 1, none⟩ (.int .i64 d) hb (by simp [go_sem])
  have s2 := kc ⟨w.heap.size + 1, 0, none⟩ (.int .i64 0) hb (by simp [go_sem])
  have s3 := kc ⟨w.heap.size + 1, 1, none⟩ (.int .i64 0) hb (by simp [go_sem])
  have s4 := kf ⟨w.heap.size + 1, 0, none⟩ (.int .i64 0) hb (by simp [go_sem]) (by simp [go_sem])
  have s5 := kf ⟨w.heap.size + 1, 1, none⟩ (.int .i64 0) hb (by simp [go_sem]) (by simp [go_sem])
  have hB := hideR (beyond B0.out hb)
  clear hb HR B0
  go_wp2_with fail
  refine bodyPost_ret (v := rv (n.tmod d) d) (by simp [results, Tryz.results119, go_sem, *]) rfl ⟨rfl, ?_⟩
  exact set2 hB.out (by omega) _ _
set_option maxHeartbeats 2000000 in
theorem rkeeps_any (an ad bn bd b : Int) (w : World) (ia : I64 an) (ja : I64 ad) (ib : I64 bn) (jb : I64 bd) (ha : okR an ad = true) (hb : okR bn bd = true) (hf : finB b = true) :
    Calls Tryz.prog 49 #[rv an ad, rv bn bd, .int .i32 b] w fun e w' => e = .returned (.bool (keepB b an ad bn bd)) ∧ Below w.heap.size w w' := by
  have HA := hideR (fun W => rfloor6 an ad W ia ja ha)
  have HB := hideR (fun W => rfloor6 bn bd W ib jb hb)
  have HU := hideR (fun W => rfrac6 an ad W ia ja ha)
  have HV := hideR (fun W => rfrac6 bn bd W ib jb hb)
  obtain ⟨-, -, a1, a2, a3, a4, a5⟩ := div_facts ha ia
  obtain ⟨-, -, b1, b2, b3, b4, b5⟩ := div_facts hb ib
  have HW := hideR (fun W => xcmp_any (an % ad) ad (bn % bd) bd W ⟨by omega, by have := ja.2; omega⟩ ja ⟨by omega, by have := jb.2; omega⟩ jb)
  have rr : cmpT (an % ad) ad (bn % bd) bd = cmpV (an % ad) ad (bn % bd) bd := by
    unfold cmpT
    rw [rest_right (okR_iff.1 ha).1 (okR_iff.1 ha).2, rest_right (okR_iff.1 hb).1 (okR_iff.1 hb).2]
    rfl
  rw [rr] at HW
  have HVl := hideR (fun W => rvalue_any b W (by simp only [finB, decide_eq_true_eq] at hf; omega) (by simp only [finB, decide_eq_true_eq] at hf; omega))
  rw [hf] at HVl
  have vb := valV_bd6 b
  have EK : Hid (keepB b an ad bn bd = (decide (an / ad - bn / bd < valV b) || (decide (an / ad - bn / bd = valV b) && (decide (cmpV (an % ad) ad (bn % bd) bd < 0) || (decide (cmpV (an % ad) ad (bn % bd) bd = 0) && valR b))))) := by
    show _ = _
    unfold keepB gapV
    rw [hf]
    by_cases c1 : an / ad - bn / bd < valV b
    · simp [c1]
    · by_cases c2 : valV b < an / ad - bn / bd
      · have c3 : ¬ an / ad - bn / bd = valV b := by omega
        simp [c1, c2, c3]
      · have c3 : an / ad - bn / bd = valV b := by omega
        simp [c3]
  have xa := ia.2
  have xb := ib.2
  obtain ⟨x, hx⟩ : ∃ x, x = an / ad := ⟨_, rfl⟩
  obtain ⟨y, hy⟩ : ∃ y, y = bn / bd := ⟨_, rfl⟩
  rw [← hx] at HA EK a3 a4
  rw [← hy] at HB EK b3 b4
  have x1 : -9223372036854775808 ≤ x - y := by omega
  have x2 : x - y ≤ 9223372036854775807 := by omega
  clear hx hy rr ia ja ib jb ha hb hf a1 a2 a5 b1 b2 b5
  generalize cmpV (an % ad) ad (bn % bd) bd = r at *
  generalize an % ad = u at *
  generalize bn % bd = v at *
  generalize valV b = vv at *
  generalize valR b = vr at *
  obtain ⟨T, hT⟩ : ∃ T, T = keepB b an ad bn bd := ⟨_, rfl⟩
  rw [← hT] at EK ⊢
  clear hT a4 b4 xa xb
  have wx : wrap64 (x - y) = x - y := by unfold wrap64; omega
  have wx' : IntKind.i64.wrap (x - y) = x - y := by rw [IntKind.wrap_i64, ← wrap64]; exact wx
  have B0 := hideR (two w (.cells #[.int .i64 an, .int .i64 ad] 24) (.cells #[.int .i64 bn, .int .i64 bd] 24))
  have c0 : ((w.alloc (.cells #[.int .i64 an, .int .i64 ad] 24)).alloc (.cells #[.int .i64 bn, .int .i64 bd] 24)).cell? ⟨w.heap.size, 0, none⟩ = some (.int .i64 an) := by simp [go_sem]
  have c1 : ((w.alloc (.cells #[.int .i64 an, .int .i64 ad] 24)).alloc (.cells #[.int .i64 bn, .int .i64 bd] 24)).cell? ⟨w.heap.size, 1, none⟩ = some (.int .i64 ad) := by simp [go_sem]
  have c2 : ((w.alloc (.cells #[.int .i64 an, .int .i64 ad] 24)).alloc (.cells #[.int .i64 bn, .int .i64 bd] 24)).cell? ⟨w.heap.size + 1, 0, none⟩ = some (.int .i64 bn) := by simp [go_sem]
  have c3 : ((w.alloc (.cells #[.int .i64 an, .int .i64 ad] 24)).alloc (.cells #[.int .i64 bn, .int .i64 bd] 24)).cell? ⟨w.heap.size + 1, 1, none⟩ = some (.int .i64 bd) := by simp [go_sem]
  go_enter Tryz.func49, Tryz.ntmps49
  go_wp2_with fail
  generalize ((w.alloc (.cells #[.int .i64 an, .int .i64 ad] 24)).alloc (.cells #[.int .i64 bn, .int .i64 bd] 24)) = W at *
  refine (HVl.out _).mono ?_
  rintro e w1 ⟨rfl, e1⟩
  obtain rfl := e1.symm
  clear HVl e1
  have B1 := Below.refl W.heap.size W
  go_upto_region 4 with (fail)
  go_cut [10] (fun t w' => t = .int .i64 (x - y) ∧ Below W.heap.size W w' ∧ w'.cell? ⟨w.heap.size, 0, none⟩ = some (.int .i64 an) ∧ w'.cell? ⟨w.heap.size, 1, none⟩ = some (.int .i64 ad) ∧ w'.cell? ⟨w.heap.size + 1, 0, none⟩ = some (.int .i64 bn) ∧ w'.cell? ⟨w.heap.size + 1, 1, none⟩ = some (.int .i64 bd))
  case first =>
    go_region_held3 (fun w' => Below W.heap.size W w' ∧ w'.cell? ⟨w.heap.size, 0, none⟩ = some (.int .i64 an) ∧ w'.cell? ⟨w.heap.size, 1, none⟩ = some (.int .i64 ad) ∧ w'.cell? ⟨w.heap.size + 1, 0, none⟩ = some (.int .i64 bn) ∧ w'.cell? ⟨w.heap.size + 1, 1, none⟩ = some (.int .i64 bd))
      (first | exact ⟨by first | with_reducible assumption | (apply Below.drew; assumption), by first | with_reducible assumption | assumption, by first | with_reducible assumption | assumption, by first | with_reducible assumption | assumption, by first | with_reducible assumption | assumption⟩ | go_keep)
      (first
        | (go_at_call 117; first | (with_reducible refine (HA.out _).mono ?_; rintro e w' ⟨rfl, hb⟩; have s0 := kc ⟨w.heap.size, 0, none⟩ (.int .i64 an) hb (by first | assumption | simp [go_sem, *]); have s1 := kc ⟨w.heap.size, 1, none⟩ (.int .i64 ad) hb (by first | assumption | simp [go_sem, *]); have s2 := kc ⟨w.heap.size + 1, 0, none⟩ (.int .i64 bn) hb (by first | assumption | simp [go_sem, *]); have s3 := kc ⟨w.heap.size + 1, 1, none⟩ (.int .i64 bd) hb (by first | assumption | simp [go_sem, *]); have s4 := beyond (w := W) (by first | assumption | (apply Below.drew; assumption)) hb) | (with_reducible refine (HB.out _).mono ?_; rintro e w' ⟨rfl, hb⟩; have s0 := kc ⟨w.heap.size, 0, none⟩ (.int .i64 an) hb (by first | assumption | simp [go_sem, *]); have s1 := kc ⟨w.heap.size, 1, none⟩ (.int .i64 ad) hb (by first | assumption | simp [go_sem, *]); have s2 := kc ⟨w.heap.size + 1, 0, none⟩ (.int .i64 bn) hb (by first | assumption | simp [go_sem, *]); have s3 := kc ⟨w.heap.size + 1, 1, none⟩ (.int .i64 bd) hb (by first | assumption | simp [go_sem, *]); have s4 := beyond (w := W) (by first | assumption | (apply Below.drew; assumption)) hb)))
    all_goals go_wp2_with fail
    all_goals go_meet
    all_goals exact ⟨by first | rfl | simp [*], by first | with_reducible assumption | (apply Below.drew; assumption), by with_reducible assumption, by with_reducible assumption, by with_reducible assumption, by with_reducible assumption⟩
  case rest =>
    clear c0 c1 c2 c3 B1 HA HB wx wx'
    obtain ⟨rfl, B1, c0, c1, c2, c3⟩ := hcut
    go_upto_region 5 with (fail)
    go_cut [11] (fun t w' => t = .int .i64 r ∧ Below W.heap.size W w')
    case first =>
      go_region_held3 (fun w' => Below W.heap.size W w' ∧ w'.cell? ⟨w.heap.size, 0, none⟩ = some (.int .i64 an) ∧ w'.cell? ⟨w.heap.size, 1, none⟩ = some (.int .i64 ad) ∧ w'.cell? ⟨w.heap.size + 1, 0, none⟩ = some (.int .i64 bn) ∧ w'.cell? ⟨w.heap.size + 1, 1, none⟩ = some (.int .i64 bd))
        (first | exact ⟨by first | with_reducible assumption | (apply Below.drew; assumption), by first | with_reducible assumption | assumption, by first | with_reducible assumption | assumption, by first | with_reducible assumption | assumption, by first | with_reducible assumption | assumption⟩ | go_keep)
        (first
          | (go_at_call 119; first | (with_reducible refine (HU.out _).mono ?_; rintro e w' ⟨rfl, hb⟩; have s0 := kc ⟨w.heap.size, 0, none⟩ (.int .i64 an) hb (by first | assumption | simp [go_sem, *]); have s1 := kc ⟨w.heap.size, 1, none⟩ (.int .i64 ad) hb (by first | assumption | simp [go_sem, *]); have s2 := kc ⟨w.heap.size + 1, 0, none⟩ (.int .i64 bn) hb (by first | assumption | simp [go_sem, *]); have s3 := kc ⟨w.heap.size + 1, 1, none⟩ (.int .i64 bd) hb (by first | assumption | simp [go_sem, *]); have s4 := beyond (w := W) (by first | assumption | (apply Below.drew; assumption)) hb) | (with_reducible refine (HV.out _).mono ?_; rintro e w' ⟨rfl, hb⟩; have s0 := kc ⟨w.heap.size, 0, none⟩ (.int .i64 an) hb (by first | assumption | simp [go_sem, *]); have s1 := kc ⟨w.heap.size, 1, none⟩ (.int .i64 ad) hb (by first | assumption | simp [go_sem, *]); have s2 := kc ⟨w.heap.size + 1, 0, none⟩ (.int .i64 bn) hb (by first | assumption | simp [go_sem, *]); have s3 := kc ⟨w.heap.size + 1, 1, none⟩ (.int .i64 bd) hb (by first | assumption | simp [go_sem, *]); have s4 := beyond (w := W) (by first | assumption | (apply Below.drew; assumption)) hb))
          | (go_at_call 118; refine (HW.out _).mono ?_; rintro e w' ⟨rfl, hb⟩; have s0 := kc ⟨w.heap.size, 0, none⟩ (.int .i64 an) hb (by first | assumption | simp [go_sem, *]); have s1 := kc ⟨w.heap.size, 1, none⟩ (.int .i64 ad) hb (by first | assumption | simp [go_sem, *]); have s2 := kc ⟨w.heap.size + 1, 0, none⟩ (.int .i64 bn) hb (by first | assumption | simp [go_sem, *]); have s3 := kc ⟨w.heap.size + 1, 1, none⟩ (.int .i64 bd) hb (by first | assumption | simp [go_sem, *]); have s4 := beyond (w := W) (by first | assumption | (apply Below.drew; assumption)) hb))
      all_goals go_wp2_with fail
      all_goals go_meet
      all_goals exact ⟨rfl, by first | with_reducible assumption | (apply Below.drew; assumption)⟩
    case rest =>
      clear c0 c1 c2 c3 B1 HU HV HW
      obtain ⟨rfl, B1⟩ := hcut
      have BF := hideR (beyond B0.out B1)
      clear B1 B0
      by_cases k1 : x - y < vv
      · have k2 : ((x - y) != vv) = true := by simp; omega
        have E : Hid (T = true) := by show _ = _; rw [EK.out]; simp [k1]
        go_wp2_with fail
        go_ret
        exact ⟨by rw [E.out]; rfl, BF.out⟩
      · by_cases k3 : x - y = vv
        · have k2 : ((x - y) != vv) = false := by simp; omega
          by_cases r1 : r < 0
          · have E : Hid (T = true) := by show _ = _; rw [EK.out]; simp [k3, r1]
            clear k3 k1 EK
            go_wp2_with fail
            go_ret
            exact ⟨by rw [E.out]; rfl, BF.out⟩
          · by_cases r2 : r = 0
            · have E : Hid (T = vr) := by show _ = _; rw [EK.out]; simp [k3, r2]
              subst r2
              clear k3 k1 r1 EK
              go_wp2_with fail
              go_ret
              exact ⟨by rw [E.out]; rfl, BF.out⟩
            · have E : Hid (T = false) := by show _ = _; rw [EK.out]; simp [k3, r1, r2]
              clear k3 k1 EK
              go_wp2_with fail
              go_ret
              exact ⟨by rw [E.out]; first | rfl | simp [*], BF.out⟩
        · have k2 : ((x - y) != vv) = true := by simp; omega
          have E : Hid (T = false) := by show _ = _; rw [EK.out]; simp [k1, k3]
          have k1' : decide (x - y < vv) = false := decide_eq_false k1
          clear k3 EK
          go_wp2_with fail
          go_ret
          exact ⟨by rw [E.out]; first | rfl | simp [*], BF.out⟩
end Go.Proofs.YtondgencdcimjaaGreat

/-
  Guards of valuations: what is told; the document's clock and Holds.
-/
namespace Go.Proofs.YtondgencdcimjaaGreat
open Go.RowKit Go.Shelf
set_option linter.unusedVariables false
set_option maxRecDepth 100000
/-- Does a valuation keep a limit? -/
def limK (L : Rats) (t : Tri3) : Bool := keepB t.2.2 ((aheadL L).n t.1.toNat) ((aheadL L).d t.1.toNat) ((aheadL L).n t.2.1.toNat) ((aheadL L).d t.2.1.toNat)
/-- Why a guard can't be asked of so many clocks. -/
def gE6 (q : Nat) (x o k n : Int) : Int := if gE x o k n = 0 then (if (q : Int) < x ∨ (q : Int) < o then 12 else 0) else gE x o k n
/-- What so many guards tell. -/
def hT (L : Rats) (G : Guas) : Nat → Bool × Int
  | 0 => (true, 0)
  | K + 1 => if (hT L G K).2 = 0 then (if gE6 L.q (G.a K) (G.o K) (G.k K) (G.n K) = 0 then ((hT L G K).1 && (gT (G.a K) (G.o K) (G.k K) (G.n K)).all (limK L), 0) else (false, gE6 L.q (G.a K) (G.o K) (G.k K) (G.n K))) else hT L G K
def holdsT6 (L : Rats) (G : Guas) : Bool × Int := if rightL L = true then hT L G G.q else (false, 7)
theorem hT_stay {L : Rats} {G : Guas} {K : Nat} (h : ¬ (hT L G K).2 = 0) : ∀ m, K ≤ m → hT L G m = hT L G K := by
  intro m hm
  induction m with
  | zero => obtain rfl : K = 0 := by omega
            rfl
  | succ m ih =>
    by_cases e : K = m + 1
    · subst e; rfl
    · have i := ih (by omega)
      rw [hT, i, if_neg h]
theorem gE_in {x o k n : Int} (h : gE x o k n = 0) : (0 ≤ x ∧ x ≤ 8 ∧ 0 ≤ o ∧ o ≤ 8) ∧ (1 ≤ k ∧ k ≤ 5) ∧ (-1048576 ≤ n ∧ n ≤ 1048576) := by
  unfold gE at h
  split at h
  · split at h
    · split at h
      · exact ⟨by assumption, by assumption, by assumption⟩
      · omega
    · omega
  · omega
/-- The limits of a guard speak of its two clocks. -/
theorem gT_in {x o k n : Int} (h : gE x o k n = 0) : ∀ t ∈ gT x o k n, ((t.1 = x ∧ t.2.1 = o) ∨ (t.1 = o ∧ t.2.1 = x)) ∧ finB t.2.2 = true := by
  obtain ⟨-, -, n0, n1⟩ := gE_in h
  intro t ht
  have f1 : finB (2 * n) = true := by simp only [finB, decide_eq_true_eq]; omega
  have f2 : finB (2 * n + 1) = true := by simp only [finB, decide_eq_true_eq]; omega
  have f3 : finB (2 * -n) = true := by simp only [finB, decide_eq_true_eq]; omega
  have f4 : finB (2 * -n + 1) = true := by simp only [finB, decide_eq_true_eq]; omega
  unfold gT at ht
  split at ht
  · simp only [List.mem_singleton] at ht; subst ht; exact ⟨.inl ⟨rfl, rfl⟩, f1⟩
  · split at ht
    · simp only [List.mem_singleton] at ht; subst ht; exact ⟨.inl ⟨rfl, rfl⟩, f2⟩
    · split at ht
      · simp only [List.mem_singleton] at ht; subst ht; exact ⟨.inr ⟨rfl, rfl⟩, f4⟩
      · split at ht
        · simp only [List.mem_singleton] at ht; subst ht; exact ⟨.inr ⟨rfl, rfl⟩, f3⟩
        · simp only [List.mem_cons, List.not_mem_nil, or_false] at ht
          rcases ht with rfl | rfl
          · exact ⟨.inl ⟨rfl, rfl⟩, f2⟩
          · exact ⟨.inr ⟨rfl, rfl⟩, f4⟩
theorem ahead_ok {L : Rats} (hr : rightL L = true) (hI : RatI L) (i : Nat) (hi : i ≤ L.q) : I64 ((aheadL L).n i) ∧ I64 ((aheadL L).d i) ∧ okR ((aheadL L).n i) ((aheadL L).d i) = true := by
  unfold aheadL
  by_cases e : i = 0
  · simp only [e, if_true]
    exact ⟨by decide, by decide, by decide⟩
  · simp only [e, if_false]
    have h1 := hI (i - 1) (by omega)
    exact ⟨h1.1, h1.2, (rightL_at hr).2 (i - 1) (by omega)⟩
theorem rzero6 (w : World) : Calls Tryz.prog 120 #[] w fun e w' => e = .returned (rv 0 1) ∧ Below w.heap.size w w' := by
  go_enter Tryz.func120, Tryz.ntmps120
  go_wp2_with fail
  first
    | (go_ret; exact ⟨rfl, Below.refl _ _⟩)
    | (refine bodyPost_ret (v := rv 0 1) (by simp [results, Tryz.results120, go_sem, *]) rfl ⟨rfl, ?_⟩; first | exact Below.refl _ _ | exact single _ _ | exact set2 (single _ _) (Nat.le_refl _) _ _)
set_option maxHeartbeats 1000000 in
theorem rclock_any (ad : Option Addr) (q cap : Nat) (L : Rats) (i : Nat) (w : World) (hq : L.q = q) (q1 : q ≤ 8) (hV : RatV w ad L) (hi : i ≤ q) :
    Calls Tryz.prog 50 #[.slice ad q cap, .int .i64 (i : Int)] w fun e w' => e = .returned (rv ((aheadL L).n i) ((aheadL L).d i)) ∧ Below w.heap.size w w' := by
  have Ba := hideR (single w (.cells #[.int .i64 0, .int .i64 0] 24))
  by_cases e : i = 0
  · subst e
    have HZ := hideR (fun W => rzero6 W)
    show Calls Tryz.prog 50 #[.slice ad q cap, .int .i64 0] w fun e w' => e = .returned (rv 0 1) ∧ Below w.heap.size w w'
    clear hV hi
    go_enter Tryz.func50, Tryz.ntmps50
    go_wp2_with fail
    refine (HZ.out _).mono ?_
    rintro e w1 ⟨rfl, hb⟩
    have s2 := kc ⟨w.heap.size, 0, none⟩ (.int .i64 0) hb (by simp [go_sem])
    have s3 := kc ⟨w.heap.size, 1, none⟩ (.int .i64 0) hb (by simp [go_sem])
    have s4 := kf ⟨w.heap.size, 0, none⟩ (.int .i64 0) hb (by simp [go_sem]) (by simp [go_sem])
    have s5 := kf ⟨w.heap.size, 1, none⟩ (.int .i64 0) hb (by simp [go_sem]) (by simp [go_sem])
    have hB := hideR (beyond Ba.out hb)
    clear hb HZ Ba
    go_wp2_with fail
    refine bodyPost_ret (v := rv 0 1) (by simp [results, Tryz.results50, go_sem, *]) rfl ⟨rfl, ?_⟩
    exact set2 hB.out (Nat.le_refl _) _ _
  · obtain ⟨b, off, rfl, c0, c1⟩ := hV (i - 1) (by omega)
    have lt0 : b < w.heap.size := World.block_lt_of_cell? _ _ c0
    have kb : ¬ w.heap.size = b := by omega
    have c0 := kc _ _ Ba.out c0
    have c1 := kc _ _ Ba.out c1
    obtain ⟨j, hj⟩ : ∃ j, j = i - 1 := ⟨_, rfl⟩
    have ea : (aheadL L).n i = L.n j ∧ (aheadL L).d i = L.d j := by
      rw [hj]
      unfold aheadL
      exact ⟨if_neg e, if_neg e⟩
    rw [ea.1, ea.2]
    rw [← hj] at c0 c1
    have ew : (i : Int) - 1 = (j : Int) := by omega
    have j0 : (0 : Int) ≤ (j : Int) := by omega
    have j1 : (j : Int) < (q : Int) := by omega
    have i0 : ((i : Int) == 0) = false := by simp; omega
    have i1 : (i : Int) ≤ 8 := by omega
    have i2 : (0 : Int) ≤ (i : Int) := by omega
    clear hV ea hj hi e hq lt0
    generalize L.n j = x at *
    generalize L.d j = y at *
    generalize (i : Int) = ii at *
    go_enter Tryz.func50, Tryz.ntmps50
    go_wp2_with fail
    refine bodyPost_ret (v := rv x y) (by simp [results, Tryz.results50, go_sem, *]) rfl ⟨rfl, ?_⟩
    first | exact set2 Ba.out (Nat.le_refl _) _ _ | exact single _ _
end Go.Proofs.YtondgencdcimjaaGreat
