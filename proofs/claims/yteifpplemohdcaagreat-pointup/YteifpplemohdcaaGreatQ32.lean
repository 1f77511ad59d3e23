/-
  The valuations of what is come from, and of what guards leave.
-/
import Derived.Test.YteifpplemohdcaaGreatQ31
namespace Go.Proofs.YteifpplemohdcaaGreat
open Go.RowKit
set_option linter.unusedVariables false
set_option maxRecDepth 100000
/-- What a guard says of numbers in D parts. -/
def gD (V : Nat → Int) (D : Int) (L : Guas) (k : Nat) : Int := V (L.a k).toNat - V (L.o k).toNat - D * L.n k
def cmpB (k d : Int) : Bool := if k = 1 then decide (d < 0) else if k = 2 then decide (d ≤ 0) else if k = 3 then decide (d = 0) else if k = 4 then decide (0 ≤ d) else decide (0 < d)
def guaH (V : Nat → Int) (D : Int) (L : Guas) : Nat → Bool
  | 0 => true
  | K + 1 => guaH V D L K && cmpB (L.k K) (gD V D L K)
theorem rs_keeps {D : Int} (hD : 1 ≤ D) {n x : Nat} {q : Mat} {V : Nat → Int} {k : Int} (hV : Pt V) (x1 : 1 ≤ x) (k0 : 0 ≤ k) (h : keepsM n V D q) : keepsM n (SV V x k D) D (rsP x (2 * k + 1) (-(2 * k) + 1) q) := fun i j hi hj => by
  have z := hV.z
  by_cases a : i = x
  · subst a
    by_cases b : j = i
    · subst b
      rw [rsP_xx]
      unfold holdsW
      rw [show ((1 : Int) - 1) * D = 0 by rw [show ((1 : Int) - 1) = 0 by omega, Int.zero_mul]]
      omega
    · rw [rsP_x _ _ _ b, SV_x, SV_o b]
      have h1 : holdsW (2 * k + 1) (D * k) D := by unfold holdsW; rw [two_k]; omega
      have h2 := h 0 j (by omega) hj
      have := holdsW_pl h1 h2
      rw [show D * k + (V 0 - V j) = D * k - V j by omega] at this
      exact this
  · by_cases b : j = x
    · subst b
      rw [rsP_c _ _ _ a, SV_x, SV_o a]
      have h1 : holdsW (-(2 * k) + 1) (-(D * k)) D := by unfold holdsW; rw [neg_k]; omega
      have h2 := h i 0 hi (by omega)
      have := holdsW_pl h2 h1
      rw [show V i - V 0 + -(D * k) = V i - D * k by omega] at this
      exact this
    · rw [rsP_o _ _ _ a b, SV_o a, SV_o b]
      exact h i j hi hj
theorem unset_pts {D : Int} (hD : 1 ≤ D) {n m x : Nat} {k : Int} {c d c' : Row} {V : Nat → Int} (hn : n ≤ 8) (hm : m = (n + 1) * (n + 1)) (zc : ZC n m c) (hV : Pt V) (x1 : 1 ≤ x) (hx : x ≤ n) (k0 : 0 ≤ k) (k1 : k ≤ 1048576)
    (e : zoneR n (drf n m (rowsL n (exM n m x k c) (n + 1))) = some d) (e' : zoneR n (drf n m (rowsL n (freeK x (n + 1) (oR n d m)) (n + 1))) = some c') : inV n m c' V D = inV n m c (SV V x k D) D := by
  have RX := zc_exM hm zc hx k0 k1
  have zd : ZC n m d := zc_drf hn hm (right_rows hm RX) e
  have RF := fr_right hn hm zd x1 hx
  have hS := Pt.set hD hV x1 k0 (x := x)
  rw [Bool.eq_iff_iff]
  constructor
  · intro h
    have hz : ¬ d = fun _ => 0 := fun h0 => by
      have k := (pts hD hn hm hV RF e').1 h
      have := free_of x1 k 0 0 (by omega) (by omega) (by omega) (by omega)
      rw [oR_at hm (by omega) (by omega), h0, show V 0 - V 0 = 0 by omega] at this
      have t : holdsB 0 0 D = true := this
      exact no_zero hD t
    rcases zc with rfl | ⟨p, hp⟩
    · have := ex_empty (n := n) (m := m) (x := x) (k := k) hm x1
      rw [e] at this
      injection this with this
      exact absurd this hz
    · have hk := nm_of k0 k1
      have rd := (hp.rd hm).exact hx x1 hk
      rcases rd_cases rd hn hm with r | r | ⟨C, FC, LC, r⟩
      · have e2 : zoneR n (drf n m (rowsL n (exM n m x k c) (n + 1))) = none := r
        rw [e] at e2; cases e2
      · have e2 : zoneR n (drf n m (rowsL n (exM n m x k c) (n + 1))) = some (fun _ => 0) := r
        rw [e] at e2; injection e2 with e2
        exact absurd e2 hz
      · have e2 : zoneR n (drf n m (rowsL n (exM n m x k c) (n + 1))) = some (cellsUpto n C m) := r
        rw [e] at e2; injection e2 with e2
        subst e2
        obtain ⟨c1, z1, _, R1, f1, p1, _⟩ := free_row hn hm zd x1 hx
        rw [e'] at f1
        injection f1 with f1
        subst f1
        have FF := frP_full hm FC x1 (x := x)
        have := p1 C FC
        rw [this] at h
        have hk2 := (keep_in hD hm FF).1 h
        have hr := rs_keeps hD hV x1 k0 hk2
        have bl := back_le (m := m) FC.cl LC hx x1 hk
        refine (keep_in hD hm hp).2 fun i j hi hj => ?_
        exact W_mono hD (hr i j hi hj) (bl i j hi hj) (hp.cl.F hi hj)
  · intro h
    have h1 := (kB_oR hm).1 h
    have h2 := (ex_kM hD hm zc hS x1 hx k0 k1).2 ⟨h1, SV_x⟩
    have h3 := (pts hD hn hm hS RX e).2 h2
    have h4 := (kB_oR hm).1 h3
    have h5 : kM n (freeK x (n + 1) (oR n d m)) (SV V x k D) D := free_kM hD hS x1 (oR_right hm zd) fun i j hi hj _ _ => h4 i j hi hj
    exact (pts hD hn hm hV RF e').2 ((free_set hD hV x1 k0 (oR_right hm zd)).1 h5)
theorem limK_kM {D : Int} (hD : 1 ≤ D) {n : Nat} {L : Lims} {M : Mat} {V : Nat → Int} (hR : RightM n M) : ∀ K, bndA n L K = true → rgtA L K = true → (kM n (limO L K M) V D ↔ kM n M V D ∧ ∀ k, k < K → holdsB (L.b k) (V (L.i k).toNat - V (L.j k).toNat) D = true)
  | 0, _, _ => ⟨fun h => ⟨h, fun k hk => by omega⟩, fun h => h.1⟩
  | K + 1, hb, hr => by
    have hb' : bndA n L K = true := by have : (bndA n L K && bndB n L K) = true := hb; exact (Bool.and_eq_true _ _ ▸ this).1
    have hr' : rgtA L K = true := by have : (rgtA L K && rightB (L.b K)) = true := hr; exact (Bool.and_eq_true _ _ ▸ this).1
    have bK := bndA_at hb K (by omega)
    have rK := rgtA_at hr K (by omega)
    simp only [bndB, decide_eq_true_eq] at bK
    simp only [rightB, decide_eq_true_eq] at rK
    show kM n (limM (limO L K M) (L.i K).toNat (L.j K).toNat (L.b K)) V D ↔ _
    rw [lim_kM hD (by omega) (by omega) (limK_right hR K hb' hr') rK, limK_kM hD hR K hb' hr']
    constructor
    · rintro ⟨⟨a, b⟩, c⟩
      refine ⟨a, fun k hk => ?_⟩
      by_cases e : k = K
      · subst e; exact c
      · exact b k (by omega)
    · rintro ⟨a, b⟩
      exact ⟨⟨a, fun k hk => b k (by omega)⟩, b K (by omega)⟩
/-- What a guard says is what its bounds say. -/
theorem gT_holds {D : Int} (hD : 1 ≤ D) {x o k n : Int} {V : Nat → Int} (h : gE x o k n = 0) : (∀ t ∈ gT x o k n, holdsB t.2.2 (V t.1.toNat - V t.2.1.toNat) D = true) ↔ cmpB k (V x.toNat - V o.toNat - D * n) = true := by
  unfold gE at h
  split at h
  · split at h
    · split at h
      · rename_i hc hk hn'
        have b1 : ((2 * n = 2147483647) ∨ (-536870912 ≤ 2 * n ∧ 2 * n ≤ 536870913)) := by omega
        have b2 : ((2 * n + 1 = 2147483647) ∨ (-536870912 ≤ 2 * n + 1 ∧ 2 * n + 1 ≤ 536870913)) := by omega
        have b3 : ((2 * -n + 1 = 2147483647) ∨ (-536870912 ≤ 2 * -n + 1 ∧ 2 * -n + 1 ≤ 536870913)) := by omega
        have b4 : ((2 * -n = 2147483647) ∨ (-536870912 ≤ 2 * -n ∧ 2 * -n ≤ 536870913)) := by omega
        have p1 : (2 * n) * D = 2 * (D * n) := by rw [Int.mul_assoc, Int.mul_comm n D]
        have p2 : (2 * n + 1 - 1) * D = 2 * (D * n) := two_k
        have p3 : (2 * -n + 1 - 1) * D = -(2 * (D * n)) := by rw [show 2 * -n + 1 - 1 = -(2 * n) by omega, Int.neg_mul, p1]
        have p4 : (2 * -n) * D = -(2 * (D * n)) := by rw [show 2 * -n = -(2 * n) by omega, Int.neg_mul, p1]
        rcases (show k = 1 ∨ k = 2 ∨ k = 3 ∨ k = 4 ∨ k = 5 by omega) with rfl | rfl | rfl | rfl | rfl
        · show (∀ t ∈ [(x, o, 2 * n)], _) ↔ decide (_ < _) = true
          simp only [List.mem_cons, List.not_mem_nil, or_false, forall_eq, hBD_iff hD b1, decide_eq_true_eq, p1]
          omega
        · show (∀ t ∈ [(x, o, 2 * n + 1)], _) ↔ decide (_ ≤ _) = true
          simp only [List.mem_cons, List.not_mem_nil, or_false, forall_eq, hBD_iff hD b2, decide_eq_true_eq, p2]
          omega
        · show (∀ t ∈ [(x, o, 2 * n + 1), (o, x, 2 * -n + 1)], _) ↔ decide (_ = _) = true
          simp only [List.mem_cons, List.not_mem_nil, or_false, forall_eq_or_imp, forall_eq, hBD_iff hD b2, hBD_iff hD b3, decide_eq_true_eq, p2, p3]
          omega
        · show (∀ t ∈ [(o, x, 2 * -n + 1)], _) ↔ decide (_ ≤ _) = true
          simp only [List.mem_cons, List.not_mem_nil, or_false, forall_eq, hBD_iff hD b3, decide_eq_true_eq, p3]
          omega
        · show (∀ t ∈ [(o, x, 2 * -n)], _) ↔ decide (_ < _) = true
          simp only [List.mem_cons, List.not_mem_nil, or_false, forall_eq, hBD_iff hD b4, decide_eq_true_eq, p4]
          omega
      · omega
    · omega
  · omega
theorem gLs_holds {D : Int} (hD : 1 ≤ D) {L : Guas} {V : Nat → Int} : ∀ K, gErr L K = 0 → ((∀ t ∈ gLs L K, holdsB t.2.2 (V t.1.toNat - V t.2.1.toNat) D = true) ↔ guaH V D L K = true)
  | 0, _ => ⟨fun _ => rfl, fun _ t ht => by cases ht⟩
  | K + 1, h => by
    have h0 := gErr_down h K (by omega)
    have h1 := gErr_at h K (by omega)
    show (∀ t ∈ gLs L K ++ gT (L.a K) (L.o K) (L.k K) (L.n K), _) ↔ (guaH V D L K && cmpB (L.k K) (gD V D L K)) = true
    rw [Bool.and_eq_true, ← gLs_holds hD K h0, show gD V D L K = V (L.a K).toNat - V (L.o K).toNat - D * L.n K from rfl, ← gT_holds hD h1]
    constructor
    · intro h
      exact ⟨fun t ht => h t (List.mem_append_left _ ht), fun t ht => h t (List.mem_append_right _ ht)⟩
    · rintro ⟨h1, h2⟩ t ht
      rcases List.mem_append.1 ht with h | h
      · exact h1 t h
      · exact h2 t h
theorem lims_holds {D : Int} {T : List Tri3} {V : Nat → Int} : (∀ k, k < (limsOf T).q → holdsB ((limsOf T).b k) (V ((limsOf T).i k).toNat - V ((limsOf T).j k).toNat) D = true) ↔ ∀ t ∈ T, holdsB t.2.2 (V t.1.toNat - V t.2.1.toNat) D = true := by
  constructor
  · intro h t ht
    obtain ⟨k, hk, rfl⟩ := List.mem_iff_getElem.1 ht
    have := h k hk
    simp only [limsOf] at this
    rw [show T.getD k (0, 0, 0) = T[k] by simp [List.getD, hk]] at this
    exact this
  · intro h k hk
    have hk' : k < T.length := hk
    simp only [limsOf]
    rw [show T.getD k (0, 0, 0) = T[k] by simp [List.getD, hk']]
    exact h _ (List.getElem_mem hk')
/-- The valuations that guards leave of a zone. -/
theorem guards_pts {D : Int} (hD : 1 ≤ D) {n m : Nat} {c c' : Row} {L : Guas} {V : Nat → Int} (hn : n ≤ 8) (hm : m = (n + 1) * (n + 1)) (zc : ZC n m c) (hV : Pt V) (hE : gErr L L.q = 0) (hb : bndA n (limsOf (gLs L L.q)) (limsOf (gLs L L.q)).q = true) (hr : rgtA (limsOf (gLs L L.q)) (limsOf (gLs L L.q)).q = true)
    (e : zoneR n (drf n m (rowsL n (limO (limsOf (gLs L L.q)) (limsOf (gLs L L.q)).q (oR n c m)) (n + 1))) = some c') : inV n m c' V D = (inV n m c V D && guaH V D L L.q) := by
  have R := oR_right hm zc
  rw [Bool.eq_iff_iff, Bool.and_eq_true, pts hD hn hm hV (limK_right R _ hb hr) e, limK_kM hD R _ hb hr, ← kB_oR hm, lims_holds, gLs_holds hD _ hE]
theorem lims_bnd {n : Nat} {T : List Tri3} (hb : bndA n (limsOf T) (limsOf T).q = true) : ∀ t ∈ T, 0 ≤ t.1 ∧ t.1 ≤ n ∧ 0 ≤ t.2.1 ∧ t.2.1 ≤ n := fun t ht => by
  obtain ⟨i, hi, rfl⟩ := List.mem_iff_getElem.1 ht
  have h := bndA_at hb i hi
  have e : T.getD i (0, 0, 0) = T[i] := by simp [List.getD, hi]
  have : 0 ≤ (T.getD i (0, 0, 0)).1 ∧ (T.getD i (0, 0, 0)).1 ≤ n ∧ 0 ≤ (T.getD i (0, 0, 0)).2.1 ∧ (T.getD i (0, 0, 0)).2.1 ≤ n := of_decide_eq_true h
  rw [e] at this
  exact this
/-- Guards that are right for a zone speak of its clocks. -/
theorem guas_in {n : Nat} {L : Guas} (hE : gErr L L.q = 0) (hb : bndA n (limsOf (gLs L L.q)) (limsOf (gLs L L.q)).q = true) (k : Nat) (hk : k < L.q) : ∃ A B : Nat, A ≤ n ∧ B ≤ n ∧ L.a k = (A : Int) ∧ L.o k = (B : Int) ∧ 1 ≤ L.k k ∧ L.k k ≤ 5 ∧ -1048576 ≤ L.n k ∧ L.n k ≤ 1048576 := by
  have hg := gErr_at hE k hk
  have hall := lims_bnd hb
  have sub : ∀ K, k < K → ∀ t ∈ gT (L.a k) (L.o k) (L.k k) (L.n k), t ∈ gLs L K := by
    intro K
    induction K with
    | zero => intro h; omega
    | succ K ih =>
      intro h t ht
      show t ∈ gLs L K ++ gT (L.a K) (L.o K) (L.k K) (L.n K)
      by_cases e : k = K
      · subst e; exact List.mem_append_right _ ht
      · exact List.mem_append_left _ (ih (by omega) t ht)
  have fst : ∃ t ∈ gT (L.a k) (L.o k) (L.k k) (L.n k), (t.1 = L.a k ∧ t.2.1 = L.o k) ∨ (t.1 = L.o k ∧ t.2.1 = L.a k) := by
    unfold gT
    split
    · exact ⟨_, List.mem_singleton.2 rfl, .inl ⟨rfl, rfl⟩⟩
    · split
      · exact ⟨_, List.mem_singleton.2 rfl, .inl ⟨rfl, rfl⟩⟩
      · split
        · exact ⟨_, List.mem_singleton.2 rfl, .inr ⟨rfl, rfl⟩⟩
        · split
          · exact ⟨_, List.mem_singleton.2 rfl, .inr ⟨rfl, rfl⟩⟩
          · exact ⟨_, List.mem_cons_self, .inl ⟨rfl, rfl⟩⟩
  obtain ⟨t, ht, hx⟩ := fst
  have b := hall t (sub L.q hk t ht)
  unfold gE at hg
  split at hg
  · split at hg
    · split at hg
      · refine ⟨(L.a k).toNat, (L.o k).toNat, ?_, ?_, ?_, ?_, ?_⟩ <;> rcases hx with ⟨h1, h2⟩ | ⟨h1, h2⟩ <;> omega
      · omega
    · omega
  · omega
end Go.Proofs.YteifpplemohdcaaGreat

/-
  What the calls of ops tell, and which valuations, in D parts, are in it.
-/
namespace Go.Proofs.YteifpplemohdcaaGreat
open Go.RowKit
set_option linter.unusedVariables false
set_option maxRecDepth 100000
theorem up_say {n m : Nat} {c : Row} (hn : n ≤ 8) (hm : m = (n + 1) * (n + 1)) (zc : ZC n m c) : ∃ c1, ZC n m c1 ∧ incB m c1 c = true ∧ (c = (fun _ => 0) → c1 = fun _ => 0) ∧ (∀ w b, ZoneAt w b n c → OTells w n 26 #[.pointer (some ⟨b, 0, none⟩)] (some c1)) ∧ ∀ D, 1 ≤ D → ∀ V, Pt V → ∀ d, 0 ≤ d → inV n m c V D = true → inV n m c1 (VD V d) D = true := by
  obtain ⟨c1, I, E0, R, e⟩ : ∃ c1, incB m c1 c = true ∧ (c = (fun _ => 0) → c1 = fun _ => 0) ∧ RightM n (upM (n + 1) (oR n c m)) ∧ zoneR n (drf n m (rowsL n (upM (n + 1) (oR n c m)) (n + 1))) = some c1 := by
    rcases zc with rfl | ⟨p, hp⟩
    · refine ⟨fun _ => 0, incB_iff.2 (.inl (by decide)), fun _ => rfl, right_zero (m := m) fun i j hi hj => ?_, pm_hollow hm ?_⟩
      · rw [oR_zero]; unfold upM; split
        · exact .inr (.inr rfl)
        · exact .inl rfl
      · rw [oR_zero]; unfold upM; rw [if_neg (by omega)]
    · exact ⟨_, full_inc (upP_full hm hp) hp hm (upP_le hp.cl), (fun h0 => by have h1 := hp.zero hm; rw [h0] at h1; cases h1), (upP_rd hm hp).right, up_is hn hm hp⟩
  refine ⟨c1, zc_drf hn hm (right_rows hm R) e, I, E0, fun w b hz => ?_, fun D hD V hV d hd h => ?_⟩
  · refine tells_of hm R e ?_
    have := oup_any b n _ w hn hz (zc_32 hm zc)
    rw [← hm] at this
    exact this
  · exact (pts hD hn hm (hV.later hd) R e).2 (up_kM hD hV hd (oR_right hm zc) ((kB_oR hm).1 h))
theorem down_say {n m : Nat} {c : Row} (hn : n ≤ 8) (hm : m = (n + 1) * (n + 1)) (zc : ZC n m c) : ∃ c1, ZC n m c1 ∧ (∀ w b, ZoneAt w b n c → OTells w n 29 #[.pointer (some ⟨b, 0, none⟩)] (some c1)) ∧ ∀ D, 1 ≤ D → ∀ V, Pt V → ∀ d, 0 ≤ d → inV n m c (VD V d) D = true → inV n m c1 V D = true := by
  obtain ⟨c1, R, e⟩ : ∃ c1, RightM n (downM (n + 1) (oR n c m)) ∧ zoneR n (drf n m (rowsL n (downM (n + 1) (oR n c m)) (n + 1))) = some c1 := by
    rcases zc with rfl | ⟨p, hp⟩
    · refine ⟨fun _ => 0, right_zero (m := m) fun i j hi hj => ?_, pm_hollow hm ?_⟩
      · rw [oR_zero]; unfold downM; split
        · exact .inr (.inl rfl)
        · exact .inl rfl
      · rw [oR_zero]; unfold downM; rw [if_neg (by omega)]
    · obtain ⟨q, F, hz1, hl, he⟩ := down_is hn hm hp
      exact ⟨_, (dnD_rd hm hp).right, hz1⟩
  refine ⟨c1, zc_drf hn hm (right_rows hm R) e, fun w b hz => ?_, fun D hD V hV d hd h => ?_⟩
  · refine tells_of hm R e ?_
    have := down_any b n _ w hn hz (zc_32 hm zc)
    rw [← hm] at this
    exact this
  · exact (pts hD hn hm hV R e).2 (down_kM hD hV hd (oR_right hm zc) ((kB_oR hm).1 h))
/-- What Reset, Unset and Free of a clock tell together. -/
structure SetSay (n m x : Nat) (k : Int) (c : Row) (o3 o4 : Option Row) (c5 : Row) : Prop where
  t3 : ∀ w b, ZoneAt w b n c → OTells w n 30 #[.pointer (some ⟨b, 0, none⟩), .int .i64 x, .int .i64 k] o3
  t4 : ∀ w b, ZoneAt w b n c → OTells w n 32 #[.pointer (some ⟨b, 0, none⟩), .int .i64 x, .int .i64 k] o4
  z3 : ∀ c3, o3 = some c3 → ZC n m c3
  z4 : ∀ c4, o4 = some c4 → ZC n m c4
  z5 : ZC n m c5
  a3 : ∀ c3, o3 = some c3 → ∀ D, 1 ≤ D → ∀ V, Pt V → inV n m c V D = true → inV n m c3 (SV V x k D) D = true
  b3 : ∀ c3, o3 = some c3 → ∀ D, 1 ≤ D → ∀ V, Pt V → inV n m c3 V D = true → V x = D * k
  c3 : ∀ c3, o3 = some c3 → ∀ D, 1 ≤ D → ∀ V, Pt V → inV n m c3 (SV V x k D) D = inV n m c5 V D
  a4 : ∀ c4, o4 = some c4 → ∀ D, 1 ≤ D → ∀ V, Pt V → inV n m c4 V D = inV n m c (SV V x k D) D
  a5 : ∀ D, 1 ≤ D → ∀ V, Pt V → inV n m c V D = true → inV n m c5 V D = true
  b5 : ∀ D, 1 ≤ D → ∀ V, Pt V → inV n m c5 (SV V x k D) D = inV n m c5 V D
theorem set_say {n m x : Nat} {k : Int} {c : Row} (hn : n ≤ 8) (hm : m = (n + 1) * (n + 1)) (zc : ZC n m c) (x1 : 1 ≤ x) (hx : x ≤ n) (k0 : 0 ≤ k) (k1 : k ≤ 1048576) : ∃ o3 o4 c5, SetSay n m x k c o3 o4 c5 := by
  obtain ⟨c5, z5, _, R5, e5, _, _⟩ := free_row hn hm zc x1 hx
  obtain ⟨o4, t4, n4, s4⟩ := unset_row hn hm zc x1 hx k0 k1
  have R3 := zc_rsM hn hm zc x1 hx k0 k1
  have z3 : ∀ c3, zoneR n (drf n m (rowsL n (rsM n m x k c) (n + 1))) = some c3 → ZC n m c3 := fun c3 e => zc_drf hn hm (right_rows hm R3) e
  have fr : ∀ D, 1 ≤ D → ∀ V, Pt V → (inV n m c5 V D = true ↔ kM n (freeK x (n + 1) (oR n c m)) V D) := fun D hD V hV => pts hD hn hm hV R5 e5
  have z4 : ∀ c4, o4 = some c4 → ∃ d, zoneR n (drf n m (rowsL n (exM n m x k c) (n + 1))) = some d ∧ zoneR n (drf n m (rowsL n (freeK x (n + 1) (oR n d m)) (n + 1))) = some c4 := fun c4 e => by
    cases ed : zoneR n (drf n m (rowsL n (exM n m x k c) (n + 1))) with
    | none => rw [n4 ed] at e; cases e
    | some d => exact ⟨d, rfl, (s4 d ed).trans e⟩
  have a5 : ∀ D, 1 ≤ D → ∀ V, Pt V → inV n m c V D = true → inV n m c5 V D = true := fun D hD V hV h => (fr D hD V hV).2 (free_kM hD hV x1 (oR_right hm zc) fun i j hi hj _ _ => (kB_oR hm).1 h i j hi hj)
  have b5 : ∀ D, 1 ≤ D → ∀ V, Pt V → inV n m c5 (SV V x k D) D = inV n m c5 V D := fun D hD V hV => by
    rw [Bool.eq_iff_iff, fr D hD _ (Pt.set hD hV x1 k0), fr D hD _ hV]
    exact free_set hD hV x1 k0 (oR_right hm zc)
  have r3 : ∀ c3, zoneR n (drf n m (rowsL n (rsM n m x k c) (n + 1))) = some c3 → ∀ D, 1 ≤ D → ∀ V, Pt V → (inV n m c3 V D = true ↔ kM n (freeK x (n + 1) (oR n c m)) V D ∧ V x = D * k) := fun c3 e D hD V hV => by
    rw [pts hD hn hm hV R3 e, rs_kM hD hn hm zc hV x1 hx k0 k1]
  refine ⟨_, o4, c5, fun w b hz => reset_tells hn hm zc x1 hx k0 k1 w b hz, t4, z3, fun c4 e => ?_, z5, fun c3 e D hD V hV h => ?_, fun c3 e D hD V hV h => ((r3 c3 e D hD V hV).1 h).2, fun c3 e D hD V hV => ?_, fun c4 e D hD V hV => ?_, a5, b5⟩
  · obtain ⟨d, e1, e2⟩ := z4 c4 e
    have zd : ZC n m d := zc_drf hn hm (right_rows hm (zc_exM hm zc hx k0 k1)) e1
    exact zc_drf hn hm (right_rows hm (fr_right hn hm zd x1 hx)) e2
  · refine (r3 c3 e D hD _ (Pt.set hD hV x1 k0)).2 ⟨?_, SV_x⟩
    have := a5 D hD V hV h
    rw [← b5 D hD V hV] at this
    exact (fr D hD _ (Pt.set hD hV x1 k0)).1 this
  · rw [Bool.eq_iff_iff, r3 c3 e D hD _ (Pt.set hD hV x1 k0), ← fr D hD _ (Pt.set hD hV x1 k0), b5 D hD V hV]
    exact ⟨fun h => h.1, fun h => ⟨h, SV_x⟩⟩
  · obtain ⟨d, e1, e2⟩ := z4 c4 e
    exact unset_pts hD hn hm zc hV x1 hx k0 k1 e1 e2
/-- What Guards tells: an error, or the zone of what the guards leave. -/
def GuaSay (w' : World) (n m : Nat) (c : Row) (L : Guas) (e : Ending) : Prop :=
  (∃ k : Int, (k != 0) = true ∧ e = .returned (.tuple #[.pointer none, .int .i64 k])) ∨
  (∃ c6 b6, e = .returned (.tuple #[.pointer (some ⟨b6, 0, none⟩), .int .i64 0]) ∧ ZoneAt w' b6 n c6 ∧ ZC n m c6 ∧ (∀ D, 1 ≤ D → ∀ V, Pt V → inV n m c6 V D = (inV n m c V D && guaH V D L L.q)) ∧ ∀ k, k < L.q → ∃ A B : Nat, A ≤ n ∧ B ≤ n ∧ L.a k = (A : Int) ∧ L.o k = (B : Int) ∧ 1 ≤ L.k k ∧ L.k k ≤ 5 ∧ -1048576 ≤ L.n k ∧ L.n k ≤ 1048576)
theorem guards_say {n m b q cap : Nat} {ad : Option Addr} {c : Row} {L : Guas} {w : World} (hn : n ≤ 8) (hm : m = (n + 1) * (n + 1)) (zc : ZC n m c) (hz : ZoneAt w b n c) (hL : L.q = q) (hV : GuaV w ad L) (hk : ∀ k, k < L.q → 0 ≤ L.k k ∧ L.k k < 256) (hq : q * 32 ≤ 140737488355328) :
    Calls Tryz.prog 33 #[.pointer (some ⟨b, 0, none⟩), .slice ad q cap] w fun e w' => GuaSay w' n m c L e ∧ Below w.heap.size w w' := by
  have H := guards_main b n q cap ad c L w hn hz (zc_32 hm zc) hL hV hk hq
  rw [← hm] at H
  refine H.mono fun e w' ⟨h, hb⟩ => ⟨?_, hb⟩
  rcases h with ⟨h1, h2⟩ | ⟨h1, h2⟩
  · exact .inl ⟨_, by simpa using h1, h2⟩
  · rcases h2 with ⟨_, h3⟩ | ⟨_, _, h3⟩ | ⟨hb1, hr1, h3⟩
    · exact .inl ⟨12, by decide, h3⟩
    · exact .inl ⟨2, by decide, h3⟩
    · have R := limK_right (oR_right hm zc) _ hb1 hr1
      cases e6 : zoneR n (drf n m (rowsL n (limO (limsOf (gLs L L.q)) (limsOf (gLs L L.q)).q (oR n c m)) (n + 1))) with
      | none =>
        have := ops_zone hm R e6 h3
        exact .inl ⟨10, by decide, this⟩
      | some c6 =>
        obtain ⟨b6, _, h5, h6⟩ := ops_zone hm R e6 h3
        exact .inr ⟨c6, b6, h5, h6, zc_drf hn hm (right_rows hm R) e6, fun D hD V hV => guards_pts hD hn hm zc hV h1 hb1 hr1 e6, fun k hk => guas_in h1 hb1 k hk⟩
/-- And, of a zone and one that includes it, is the zone. -/
theorem and_say {n m b b2 g cap : Nat} {c d : Row} {w : World} (hn : n ≤ 8) (hm : m = (n + 1) * (n + 1)) (z1 : ZC n m c) (z2 : ZC n m d) (hi : incB m d c = true) (hd : c = (fun _ => 0) → d = fun _ => 0) (h1 : ZoneAt w b n c) (h2 : ZoneAt w b2 n d) (hg : w.cell? ⟨g, 0, none⟩ = some (.pointer (some ⟨b2, 0, none⟩))) :
    OTells w n 34 #[.pointer (some ⟨b, 0, none⟩), .slice (some ⟨g, 0, none⟩) 1 cap] (some c) := by
  have rm : ∀ k, rightB (minR c d k) = true := fun k => right_min (zc_right hm z1 k) (zc_right hm z2 k)
  have el : ∀ j, j < m → minR c d j = c j := fun j hj => by
    unfold minR
    rcases incB_iff.1 hi with h | h
    · rcases z1 with rfl | ⟨p, hp⟩
      · rw [hd rfl]; rfl
      · have := hp.zero hm; omega
    · have := h j hj; omega
  have ez : zoneR n (drf n m (listOf (minR c d) m)) = some c := by
    rw [listOf_congr _ _ _ el]; exact zc_zone hn hm z1
  refine (and_main b n g 0 cap 1 c (fun _ => b2) (fun _ => d) w hn h1 (zc_32 hm z1) (by omega) (fun k hk => ?_) (fun k hk => h2) (fun _ => zc_32 hm z2)).mono fun e w' ⟨h, hb⟩ => ⟨⟨w.heap.size, ?_⟩, hb⟩
  · obtain rfl : k = 0 := by omega
    exact hg
  · rw [← hm] at h
    have := ops_of hm h (oand_one hm) rm
    rw [ez] at this
    exact this
end Go.Proofs.YteifpplemohdcaaGreat
