/-
  Guards of valuations: what is told; the document's clock and Holds.
-/
import Derived.Test.YteifpplemohdcaaGreatQ41
import Derived.Test.YteifpplemohdcaaGreatQ22
import Derived.Test.YteifpplemohdcaaGreatQ30
import Derived.Test.YteifpplemohdcaaGreatQ40
import Derived.Test.YteifpplemohdcaaGreatQ2
namespace Go.Proofs.YteifpplemohdcaaGreat
open Go.RowKit Go.Shelf
set_option linter.unusedVariables false
set_option maxRecDepth 100000
/-- Does a valuation keep a limit? -/
def limK (L : Rats) (t : Tri3) : Bool := keepB t.2.2 ((aheadL L).n t.1.toNat) ((aheadL L).d t.1.toNat) ((aheadL L).n t.2.1.toNat) ((aheadL L).d t.2.1.toNat)
/-- Why a guard can't be asked of so many clocks. -/
def gE6 (q : Nat) (x o k n : Int) : Int := if gE x o k n = 0 then (if (q : Int) < x ∨ (q : Int) < o then 12 else 0) else gE x o k n
/-- What so many guards tell. -/
def hT (L : Rats) (G : Guas) : Nat → Bool × Int
  | 0 => (true, 0)
  | K + 1 => if (hT L G K).2 = 0 then (if gE6 L.q (G.a K) (G.o K) (G.k K) (G.n K) = 0 then ((hT L G K).1 && (gT (G.a K) (G.o K) (G.k K) (G.n K)).all (limK L), 0) else (false, gE6 L.q (G.a K) (G.o K) (G.k K) (G.n K))) else hT L G K
def holdsT6 (L : Rats) (G : Guas) : Bool × Int := if rightL L = true then hT L G G.q else (false, 7)
theorem hT_stay {L : Rats} {G : Guas} {K : Nat} (h : ¬ (hT L G K).2 = 0) : ∀ m, K ≤ m → hT L G m = hT L G K := by
  intro m hm
  induction m with
  | zero => obtain rfl : K = 0 := by omega
            rfl
  | succ m ih =>
    by_cases e : K = m + 1
    · subst e; rfl
    · have i := ih (by omega)
      rw [hT, i, if_neg h]
theorem gE_in {x o k n : Int} (h : gE x o k n = 0) : (0 ≤ x ∧ x ≤ 8 ∧ 0 ≤ o ∧ o ≤ 8) ∧ (1 ≤ k ∧ k ≤ 5) ∧ (-1048576 ≤ n ∧ n ≤ 1048576) := by
  unfold gE at h
  split at h
  · split at h
    · split at h
      · exact ⟨by assumption, by assumption, by assumption⟩
      · omega
    · omega
  · omega
/-- The limits of a guard speak of its two clocks. -/
theorem gT_in {x o k n : Int} (h : gE x o k n = 0) : ∀ t ∈ gT x o k n, ((t.1 = x ∧ t.2.1 = o) ∨ (t.1 = o ∧ t.2.1 = x)) ∧ finB t.2.2 = true := by
  obtain ⟨-, -, n0, n1⟩ := gE_in h
  intro t ht
  have f1 : finB (2 * n) = true := by simp only [finB, decide_eq_true_eq]; omega
  have f2 : finB (2 * n + 1) = true := by simp only [finB, decide_eq_true_eq]; omega
  have f3 : finB (2 * -n) = true := by simp only [finB, decide_eq_true_eq]; omega
  have f4 : finB (2 * -n + 1) = true := by simp only [finB, decide_eq_true_eq]; omega
  unfold gT at ht
  split at ht
  · simp only [List.mem_singleton] at ht; subst ht; exact ⟨.inl ⟨rfl, rfl⟩, f1⟩
  · split at ht
    · simp only [List.mem_singleton] at ht; subst ht; exact ⟨.inl ⟨rfl, rfl⟩, f2⟩
    · split at ht
      · simp only [List.mem_singleton] at ht; subst ht; exact ⟨.inr ⟨rfl, rfl⟩, f4⟩
      · split at ht
        · simp only [List.mem_singleton] at ht; subst ht; exact ⟨.inr ⟨rfl, rfl⟩, f3⟩
        · simp only [List.mem_cons, List.not_mem_nil, or_false] at ht
          rcases ht with rfl | rfl
          · exact ⟨.inl ⟨rfl, rfl⟩, f2⟩
          · exact ⟨.inr ⟨rfl, rfl⟩, f4⟩
theorem ahead_ok {L : Rats} (hr : rightL L = true) (hI : RatI L) (i : Nat) (hi : i ≤ L.q) : I64 ((aheadL L).n i) ∧ I64 ((aheadL L).d i) ∧ okR ((aheadL L).n i) ((aheadL L).d i) = true := by
  unfold aheadL
  by_cases e : i = 0
  · simp only [e, if_true]
    exact ⟨by decide, by decide, by decide⟩
  · simp only [e, if_false]
    have h1 := hI (i - 1) (by omega)
    exact ⟨h1.1, h1.2, (rightL_at hr).2 (i - 1) (by omega)⟩
end Go.Proofs.YteifpplemohdcaaGreat

/-
  Wait, Set and Holds of point, in D parts.
-/
namespace Go.Proofs.YteifpplemohdcaaGreat
open Go.RowKit
set_option linter.unusedVariables false
set_option maxRecDepth 100000
theorem pV_at {D : Int} {L : Rats} {i : Nat} (h1 : ¬ i = 0) (h2 : i ≤ L.q) : pV D L i = parts D (L.n (i - 1)) (L.d (i - 1)) := by
  unfold pV; rw [if_neg h1, if_pos h2]
theorem parts_one {D a b X : Int} (p : 0 < b) (d : b ∣ D) (e : X * b = a * D) : parts D a b = X := by
  refine Int.eq_of_mul_eq_mul_right (show b ≠ 0 by omega) ?_
  rw [parts_eq d, e]
/-- A valuation behind a delay. -/
theorem wait_V {n : Nat} {L : Rats} {D dn dd : Int} (hn : n ≤ 8) (hf : fitB L n = true) (hd : okR dn dd = true) (hw : ∀ k, k < n → (addT (L.n k) (L.d k) dn dd).2.2 = 0) (d1 : ∀ k, k < n → L.d k ∣ D) (d2 : dd ∣ D) (d3 : ∀ k, k < n → (waitL L dn dd).d k ∣ D) :
    fitB (waitL L dn dd) n = true ∧ ∀ i, i ≤ n → pV D (waitL L dn dd) i = VD (pV D L) (parts D dn dd) i := by
  obtain ⟨Lq, hok⟩ := (fitB_iff hn).1 hf
  have pd := (right_pos (okR_iff.1 hd).1).1
  have hwok : ∀ k, k < n → _ := fun k hk => wait_ok (hok k hk) hd (hw k hk)
  refine ⟨(fitB_iff hn).2 ⟨Lq, fun k hk => (hwok k hk).1⟩, fun i hi => ?_⟩
  unfold VD
  by_cases e : i = 0
  · rw [if_pos e, e]; rfl
  · rw [if_neg e, pV_at e (show i ≤ (waitL L dn dd).q by show i ≤ L.q; omega), pV_at e (by omega)]
    obtain ⟨o, _, _, q⟩ := hwok (i - 1) (by omega)
    have pi := (right_pos (okR_iff.1 (hok (i - 1) (by omega))).1).1
    exact parts_one (right_pos (okR_iff.1 o).1).1 (d3 _ (by omega)) (wait_parts pi pd (d1 _ (by omega)) d2 q)
/-- A valuation with a clock set. -/
theorem set_V {n x : Nat} {L : Rats} {D k : Int} (hn : n ≤ 8) (hf : fitB L n = true) (x1 : 1 ≤ x) (hx : x ≤ n) (k0 : 0 ≤ k) :
    fitB (setL L (x - 1) k) n = true ∧ ∀ i, i ≤ n → pV D (setL L (x - 1) k) i = SV (pV D L) x k D i := by
  obtain ⟨Lq, hok⟩ := (fitB_iff hn).1 hf
  refine ⟨(fitB_iff hn).2 ⟨Lq, fun j hj => ?_⟩, fun i hi => ?_⟩
  · unfold setL
    simp only
    by_cases e : j = x - 1
    · rw [if_pos e, if_pos e]; exact okR_iff.2 ⟨right_one k, k0⟩
    · rw [if_neg e, if_neg e]; exact hok j hj
  · unfold SV
    by_cases e0 : i = 0
    · rw [if_neg (by omega), e0]; rfl
    · rw [pV_at e0 (show i ≤ (setL L (x - 1) k).q by show i ≤ L.q; omega)]
      unfold setL
      simp only
      by_cases e : i = x
      · rw [if_pos e, if_pos (by omega), if_pos (by omega)]
        unfold parts
        rw [Int.ediv_one, Int.mul_comm]
      · rw [if_neg e, if_neg (by omega), if_neg (by omega), pV_at e0 (by omega)]
theorem limK_says {n : Nat} {L : Rats} {D : Int} {t : Tri3} (hn : n ≤ 8) (hf : fitB L n = true) (hD : 1 ≤ D) (dv : ∀ k, k < n → L.d k ∣ D) (hb : rightB t.2.2 = true) (h1 : t.1.toNat ≤ n) (h2 : t.2.1.toNat ≤ n) : limK L t = holdsB t.2.2 (pV D L t.1.toNat - pV D L t.2.1.toNat) D := by
  obtain ⟨Lq, hk⟩ := (fitB_iff hn).1 hf
  have h : ∀ i, i ≤ n → 0 < (aheadL L).d i ∧ pV D L i * (aheadL L).d i = (aheadL L).n i * D := fun i hi => by
    unfold aheadL pV
    simp only
    by_cases e : i = 0
    · rw [if_pos e, if_pos e, if_pos e]; omega
    · rw [if_neg e, if_neg e, if_neg e, if_pos (by omega)]
      exact ⟨(okR_pos (hk _ (by omega))).2, parts_eq (dv _ (by omega))⟩
  have := keepAt_parts (n := n) (c := fun _ => t.2.2) (L := L) (P := pV D L) (show 0 < D by omega) (k := t.1.toNat * (n + 1) + t.2.1.toNat) hb h (pos_lt h1 h2)
  unfold keepAt at this
  rw [place_div h2, place_mod h2] at this
  exact this
/-- Guards that are right for so many clocks: what Holds tells is what they say. -/
theorem holds_V {n : Nat} {L : Rats} {G : Guas} {D : Int} (hn : n ≤ 8) (hf : fitB L n = true) (hD : 1 ≤ D) (dv : ∀ k, k < n → L.d k ∣ D) (hg : ∀ k, k < G.q → gE (G.a k) (G.o k) (G.k k) (G.n k) = 0 ∧ (G.a k).toNat ≤ n ∧ (G.o k).toNat ≤ n) : ∀ K, K ≤ G.q → hT L G K = (guaH (pV D L) D G K, 0)
  | 0, _ => rfl
  | K + 1, hK => by
    obtain ⟨Lq, hk⟩ := (fitB_iff hn).1 hf
    have ih := holds_V hn hf hD dv hg K (by omega)
    obtain ⟨e, a1, a2⟩ := hg K (by omega)
    obtain ⟨⟨x0, x8, o0, o8⟩, kk, nn⟩ := gE_in e
    have g6 : gE6 L.q (G.a K) (G.o K) (G.k K) (G.n K) = 0 := by
      unfold gE6
      rw [if_pos e, if_neg (by omega)]
    show (if (hT L G K).2 = 0 then _ else _) = _
    rw [ih, if_pos rfl, if_pos g6]
    have hl : (gT (G.a K) (G.o K) (G.k K) (G.n K)).all (limK L) = cmpB (G.k K) (gD (pV D L) D G K) := by
      rw [Bool.eq_iff_iff, List.all_eq_true, show gD (pV D L) D G K = pV D L (G.a K).toNat - pV D L (G.o K).toNat - D * G.n K from rfl, ← gT_holds hD e]
      have one : ∀ t ∈ gT (G.a K) (G.o K) (G.k K) (G.n K), limK L t = holdsB t.2.2 (pV D L t.1.toNat - pV D L t.2.1.toNat) D := fun t ht => by
        obtain ⟨c1, f⟩ := gT_in e t ht
        refine limK_says hn hf hD dv ?_ ?_ ?_
        · simp only [finB, decide_eq_true_eq] at f
          simp only [rightB, decide_eq_true_eq]; omega
        · rcases c1 with ⟨h, -⟩ | ⟨h, -⟩ <;> rw [h] <;> assumption
        · rcases c1 with ⟨-, h⟩ | ⟨-, h⟩ <;> rw [h] <;> assumption
      constructor
      · intro h t ht; rw [← one t ht]; exact h t ht
      · intro h t ht; rw [one t ht]; exact h t ht
    rw [hl]
    rfl
end Go.Proofs.YteifpplemohdcaaGreat

/-
  dbm.Of in all cases, with what ops asks of a zone; what is in the zones that the law makes, as facts of In alone.
-/
namespace Go.Proofs.YteifpplemohdcaaGreat
open Go.RowKit Go.Shelf
set_option linter.unusedVariables false
set_option maxRecDepth 100000
theorem right_allU {l : List Int} : ∀ {m : Nat}, allRight l m = true → RightL m l
  | 0, _ => fun k hk => by omega
  | m + 1, h => fun k hk => by
    rw [allRight] at h
    simp only [Bool.and_eq_true] at h
    by_cases e : k = m
    · subst e
      have := h.2
      unfold rightB at this
      exact of_decide_eq_true this
    · exact right_allU h.1 k (by omega)
/-- What dbm.Of tells: an error, or a zone. -/
def OfZ (w' : World) (n : Int) (e : Ending) : Prop := (∃ x : Int, e = .returned (.tuple #[.pointer none, .int .i64 x])) ∨ ∃ (N b : Nat) (c : Row), n = N ∧ N ≤ 8 ∧ e = .returned (.tuple #[.pointer (some ⟨b, 0, none⟩), .int .i64 0]) ∧ ZoneAt w' b N c ∧ ZC N ((N + 1) * (N + 1)) c
theorem ofZ_any (n : Int) (v : Value) (l : List Int) (w : World) (hS : SliceAt w v l) (hi : ∀ j, j < l.length → -2147483648 ≤ l.getD j 0 ∧ l.getD j 0 ≤ 2147483647) (hby : l.length ≤ 9223372036854775807) :
    Calls Tryz.prog 23 #[.int .i64 n, v] w fun e w' => OfZ w' n e ∧ Below w.heap.size w w' := by
  by_cases hn : 0 ≤ n ∧ n ≤ 8
  · obtain ⟨N, rfl⟩ := Int.eq_ofNat_of_zero_le hn.1
    have N8 : N ≤ 8 := by omega
    have long : ∀ ad len cap, ¬ len = (N + 1) * (N + 1) → len ≤ 9223372036854775807 → Calls Tryz.prog 23 #[.int .i64 N, .slice ad len cap] w fun e w' => OfZ w' N e ∧ Below w.heap.size w w' := fun ad len cap h1 h2 => (of_long N len cap ad w N8 h1 h2).mono fun x w' ⟨hx, hb⟩ => ⟨.inl ⟨6, hx⟩, hb⟩
    by_cases hl : l.length = (N + 1) * (N + 1)
    · rcases hS with ⟨ad, c, rfl, rfl⟩ | ⟨cb, off, cap, rfl, hc⟩
      · exfalso
        simp at hl
      · refine (of_main N cb off cap l w N8 hl hc hi).mono ?_
        rintro e w' ⟨hb, ⟨-, rfl⟩ | ⟨ha, hz⟩⟩
        · exact ⟨.inl ⟨7, rfl⟩, hb⟩
        · refine ⟨?_, hb⟩
          cases ez : zoneR N (tgAll N l l.length (startR N (N + 1) 0)) with
          | none =>
            rw [ez] at hz
            exact .inl ⟨10, hz⟩
          | some c =>
            rw [ez] at hz
            obtain ⟨b, _, rfl, hz⟩ := hz
            exact .inr ⟨N, b, c, rfl, N8, rfl, hz, zc_drf (l := l) N8 rfl (hl ▸ right_allU ha) (by rw [hl] at ez; exact ez)⟩
    · rcases hS with ⟨ad, c, rfl, rfl⟩ | ⟨cb, off, cap, rfl, hc⟩
      · exact long _ _ _ (fun e => hl (by rw [List.length_nil]; exact e)) (by decide)
      · exact long _ _ _ hl hby
  · refine (of_clock n v w hn).mono ?_
    rintro e w' ⟨rfl, rfl⟩
    exact ⟨.inl ⟨12, rfl⟩, Below.refl _ _⟩
/-- Up: what is in the zone is, behind any delay, in what it tells. -/
theorem up_in {n m : Nat} {c c1 : Row} {L : Rats} {dn dd : Int} (hn : n ≤ 8) (hm : m = (n + 1) * (n + 1)) (zc : ZC n m c) (z1 : ZC n m c1) (hup : ∀ D, 1 ≤ D → ∀ V, Pt V → ∀ d, 0 ≤ d → inV n m c V D = true → inV n m c1 (VD V d) D = true) (hf : fitB L n = true) (hd : okR dn dd = true) (hw : ∀ k, k < n → (addT (L.n k) (L.d k) dn dd).2.2 = 0) (h : inB n m c L = true) : inB n m c1 (waitL L dn dd) = true := by
  obtain ⟨Lq, hok⟩ := (fitB_iff hn).1 hf
  have pd := (right_pos (okR_iff.1 hd).1).1
  have wok : ∀ k, k < n → _ := fun k hk => wait_ok (hok k hk) hd (hw k hk)
  obtain ⟨M1, a1, a2, a3⟩ := dens n L.d dd pd (fun k hk => (right_pos (okR_iff.1 (hok k hk)).1).1)
  obtain ⟨D, b1, b2, b3⟩ := dens n (waitL L dn dd).d M1 a1 (fun k hk => (right_pos (okR_iff.1 (wok k hk).1).1).1)
  have d1 : ∀ k, k < n → L.d k ∣ D := fun k hk => Int.dvd_trans (a3 k hk) b2
  have d2 : dd ∣ D := Int.dvd_trans a2 b2
  obtain ⟨f2, e2⟩ := wait_V hn hf hd hw d1 d2 b3
  rw [in_says hn hm (zc_right hm zc) hf (show 1 ≤ D by omega) d1] at h
  rw [in_says hn hm (zc_right hm z1) f2 (show 1 ≤ D by omega) b3, inV_congr hm e2]
  exact hup D (by omega) _ (pV_pt hn (by omega) hf) _ (Int.mul_nonneg (okR_iff.1 hd).2 (Int.ediv_nonneg (by omega) (by omega))) h
/-- Down: where there is a delay, the valuation is in what it tells. -/
theorem down_in {n m : Nat} {c c1 : Row} {L : Rats} (hn : n ≤ 8) (hm : m = (n + 1) * (n + 1)) (zc : ZC n m c) (z1 : ZC n m c1) (hdn : ∀ D, 1 ≤ D → ∀ V, Pt V → ∀ d, 0 ≤ d → inV n m c (VD V d) D = true → inV n m c1 V D = true) (hf : fitB L n = true) (h : (delB n m c L).2 = true) : inB n m c1 L = true := by
  obtain ⟨D, X, h1, h2, h3, h4⟩ := later_says hn hm (zc_right hm zc) hf h
  rw [in_says hn hm (zc_right hm z1) hf h1 h2]
  exact hdn D h1 _ (pV_pt hn h1 hf) X h3 h4
theorem one_dens {n : Nat} {L : Rats} (hn : n ≤ 8) (hf : fitB L n = true) : ∃ D, 1 ≤ D ∧ ∀ k, k < n → L.d k ∣ D := by
  obtain ⟨Lq, hok⟩ := (fitB_iff hn).1 hf
  obtain ⟨M, m, m1, m2⟩ := dens n L.d 1 (by decide) (fun k hk => (right_pos (okR_iff.1 (hok k hk)).1).1)
  exact ⟨M, by omega, m2⟩
theorem setL_dens {n x : Nat} {L : Rats} {D k : Int} (h : ∀ j, j < n → L.d j ∣ D) : ∀ j, j < n → (setL L x k).d j ∣ D := fun j hj => by
  unfold setL
  simp only
  split
  · exact Int.one_dvd D
  · exact h j hj
/-- Reset and Unset: what is in them. -/
theorem set_in {n m x : Nat} {k : Int} {c c5 : Row} {o3 o4 : Option Row} {L : Rats} (hn : n ≤ 8) (hm : m = (n + 1) * (n + 1)) (zc : ZC n m c) (S : SetSay n m x k c o3 o4 c5) (hf : fitB L n = true) (x1 : 1 ≤ x) (hx : x ≤ n) (k0 : 0 ≤ k) :
    (∀ c3, o3 = some c3 → (inB n m c L = true → inB n m c3 (setL L (x - 1) k) = true) ∧ (inB n m c3 L = true → L.n (x - 1) = k ∧ L.d (x - 1) = 1)) ∧ (∀ c4, o4 = some c4 → inB n m c4 L = inB n m c (setL L (x - 1) k)) := by
  obtain ⟨Lq, hok⟩ := (fitB_iff hn).1 hf
  obtain ⟨D, hD, dv⟩ := one_dens hn hf
  obtain ⟨f2, e2⟩ := set_V (D := D) hn hf x1 hx k0
  have dv2 : ∀ j, j < n → (setL L (x - 1) k).d j ∣ D := setL_dens dv
  have pt := pV_pt hn hD hf
  refine ⟨fun c3 e => ⟨fun h => ?_, fun h => ?_⟩, fun c4 e => ?_⟩
  · rw [in_says hn hm (zc_right hm zc) hf hD dv] at h
    rw [in_says hn hm (zc_right hm (S.z3 c3 e)) f2 hD dv2, inV_congr hm e2]
    exact S.a3 c3 e D hD _ pt h
  · rw [in_says hn hm (zc_right hm (S.z3 c3 e)) hf hD dv] at h
    have hv := S.b3 c3 e D hD _ pt h
    rw [pV_at (by omega) (by omega)] at hv
    have g := hok (x - 1) (by omega)
    have r := (okR_iff.1 g).1
    have p := (right_pos r).1
    have q := parts_eq (a := L.n (x - 1)) (dv (x - 1) (by omega))
    rw [hv, Int.mul_assoc, Int.mul_comm] at q
    have q2 : k * L.d (x - 1) = L.n (x - 1) := Int.eq_of_mul_eq_mul_right (show D ≠ 0 by omega) q
    have co := right_iff.1 r
    have d1 : L.d (x - 1) ∣ L.n (x - 1) := ⟨k, by rw [← q2, Int.mul_comm]⟩
    have e1 : L.d (x - 1) = 1 := (co_all (sz_nn _) (by omega)).1 co.2 _ (by omega) (by rw [show sz (L.n (x - 1)) = L.n (x - 1) by have := (okR_iff.1 g).2; unfold sz; split <;> omega]; exact d1) (Int.dvd_refl _)
    exact ⟨by rw [← q2, e1, Int.mul_one], e1⟩
  · rw [in_says hn hm (zc_right hm (S.z4 c4 e)) hf hD dv, in_says hn hm (zc_right hm zc) f2 hD dv2, inV_congr hm e2]
    exact S.a4 c4 e D hD _ pt
/-- Guards: what is in what they leave. -/
theorem guards_in {n m : Nat} {c c6 : Row} {L : Rats} {G : Guas} (hn : n ≤ 8) (hm : m = (n + 1) * (n + 1)) (zc : ZC n m c) (z6 : ZC n m c6) (hV : ∀ D, 1 ≤ D → ∀ V, Pt V → inV n m c6 V D = (inV n m c V D && guaH V D G G.q)) (hg : ∀ k, k < G.q → ∃ A B : Nat, A ≤ n ∧ B ≤ n ∧ G.a k = (A : Int) ∧ G.o k = (B : Int) ∧ 1 ≤ G.k k ∧ G.k k ≤ 5 ∧ -1048576 ≤ G.n k ∧ G.n k ≤ 1048576) (hf : fitB L n = true) :
    (holdsT6 L G).2 = 0 ∧ inB n m c6 L = (inB n m c L && (holdsT6 L G).1) := by
  obtain ⟨D, hD, dv⟩ := one_dens hn hf
  have hr : rightL L = true := by
    unfold fitB at hf
    exact (Bool.and_eq_true_iff.1 hf).1
  have hh := holds_V hn hf hD dv (G := G) (fun k hk => by
    obtain ⟨A, B, h1, h2, h3, h4, h5, h6, h7, h8⟩ := hg k hk
    refine ⟨?_, by omega, by omega⟩
    unfold gE
    rw [if_pos (by omega), if_pos (by omega), if_pos (by omega)]) G.q (Nat.le_refl _)
  unfold holdsT6
  rw [if_pos hr, hh]
  refine ⟨rfl, ?_⟩
  rw [in_says hn hm (zc_right hm z6) hf hD dv, in_says hn hm (zc_right hm zc) hf hD dv]
  exact hV D hD _ (pV_pt hn hD hf)
end Go.Proofs.YteifpplemohdcaaGreat
