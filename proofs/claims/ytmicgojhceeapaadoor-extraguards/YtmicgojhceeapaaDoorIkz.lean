/-
  guarded of the statements of extra; guards of one clock, up to its constant, cannot tell.
-/
import Derived.Test.YtmicgojhceeapaaDoorIjz
namespace Go.Proofs.YtmicgojhceeapaaDoor
open Go.RowKit
set_option linter.unusedVariables false
set_option maxRecDepth 100000
theorem same_core {n m i : Nat} {p q : Mat} {c ca : Row} {l : List Int} {mx lw hg : Int} {uL uH : Prop} (hn : n ≤ 8) (hm : m = (n + 1) * (n + 1)) (h : FullC n m p c) (hq : FullC n m q ca) (hi : i ≤ n) (i1 : 1 ≤ i) (hmx : l.getD (i - 1) 0 = mx) (hh : Hd mx lw hg)
    (U : Le n q (wdP l l (frS (silL l l n) (silL l l n).length p))) (hs : ∃ s, Cl n s ∧ Le n s q ∧ (uL → s 0 i ≤ lw) ∧ (uH → s i 0 ≤ hg)) : ∃ s, Cl n s ∧ Le n s p ∧ (uL → s 0 i ≤ lw) ∧ (uH → s i 0 ≤ hg) := by
  have z0 : (0 : Nat) ≤ n := by omega
  obtain ⟨s, cs, sq, sl, sh⟩ := hs
  obtain ⟨b1, b2⟩ := guard_bounds hn hm h hi i1 hmx hh hq.cl U
  obtain ⟨a1, a2, a3, a4, a5, a6⟩ := hh
  have fl : Fin' 536870913 lw := .inr ⟨by omega, by omega⟩
  have fh : Fin' 536870913 hg := .inr ⟨by omega, by omega⟩
  have Fl : F lw := fl.mono (by decide)
  have Fh : F hg := fh.mono (by decide)
  have fp : FinM n 1099511627776 p := fun a b ha hb => (h.fin hm ha hb).mono (by decide)
  have t1 := cs.t hi hi z0
  rw [cs.one i hi] at t1
  have t2 := cs.t z0 z0 hi
  rw [cs.one 0 z0] at t2
  have cL : uL → 1 ≤ pl (p i 0) lw := fun u => b1 (Int.le_trans t1 (pl_mono (cs.F hi z0) (cs.F z0 hi) (hq.cl.F hi z0) Fl (sq i 0 hi z0) (sl u)))
  have cH : uH → 1 ≤ pl (p 0 i) hg := fun u => b2 (Int.le_trans t2 (pl_mono (cs.F z0 hi) (cs.F hi z0) (hq.cl.F z0 hi) Fh (sq 0 i z0 hi) (sh u)))
  by_cases uL' : uL
  · obtain ⟨c1, l1, e1⟩ := withB_cl fp h.cl hi z0 (fl.mono (by decide)) (cL uL')
    by_cases uH' : uH
    · have cLH : 1 ≤ pl lw hg := Int.le_trans t2 (pl_mono (cs.F z0 hi) (cs.F hi z0) Fl Fh (sl uL') (sh uH'))
      have v : withB p i 0 lw 0 i = min (p 0 i) lw := by
        unfold withB
        rw [h.cl.one 0 z0, h.cl.one i hi, one_pl Fl, pl_one Fl]
      have cc : 1 ≤ pl (withB p i 0 lw 0 i) hg := by
        rw [v]
        by_cases le : p 0 i ≤ lw
        · rw [show min (p 0 i) lw = p 0 i by omega]; exact cH uH'
        · rw [show min (p 0 i) lw = lw by omega]; exact cLH
      obtain ⟨c2, l2, e2⟩ := withB_cl (withB_small (h.finM hm) hi z0 fl) c1 z0 hi (fh.mono (by decide)) cc
      refine ⟨_, c2, fun a b ha hb => Int.le_trans (l2 a b ha hb) (l1 a b ha hb), fun _ => Int.le_trans (l2 0 i z0 hi) e1, fun _ => e2⟩
    · exact ⟨_, c1, l1, fun _ => e1, fun u => absurd u uH'⟩
  · by_cases uH' : uH
    · obtain ⟨c1, l1, e1⟩ := withB_cl fp h.cl z0 hi (fh.mono (by decide)) (cH uH')
      exact ⟨_, c1, l1, fun u => absurd u uL', fun _ => e1⟩
    · exact ⟨p, h.cl, fun _ _ _ _ => Int.le_refl _, fun u => absurd u uL', fun u => absurd u uH'⟩
/-- Limits that say this of a clock. -/
def Says (n i : Nat) (L : Lims) (lw hg : Int) (uL uH : Prop) : Prop := okAll n L L.q = true ∧ ∀ s, Cl n s → (∀ j, j ≤ n → s 0 j ≤ 1) → (Le n s (tlAll L L.q (startR n (n + 1) 0)) ↔ ((uL → s 0 i ≤ lw) ∧ (uH → s i 0 ≤ hg)))
theorem gB_same {n m i : Nat} {c ca : Row} {l : List Int} {mx lw hg : Int} {uL uH : Prop} {L : Lims} (hn : n ≤ 8) (hm : m = (n + 1) * (n + 1)) (zc : ZC n m c) (hi : i ≤ n) (i1 : 1 ≤ i) (hmx : l.getD (i - 1) 0 = mx) (hh : Hd mx lw hg) (inc : incB m ca c = true)
    (a1 : c = (fun _ => 0) → ca = fun _ => 0) (a2 : ∀ p, FullC n m p c → ∃ q, FullC n m q ca ∧ Le n q (wdP l l (frS (silL l l n) (silL l l n).length p)) ∧ ∀ s, Cl n s → Le n s (wdP l l (frS (silL l l n) (silL l l n).length p)) → Le n s q) (hS : Says n i L lw hg uL uH) : gB n m c L = gB n m ca L := by
  rcases zc with rfl | ⟨p, hp⟩
  · rw [a1 rfl]
  · obtain ⟨q, hq, U, G⟩ := a2 p hp
    obtain ⟨ok, hS⟩ := hS
    have pq : Le n p q := G p hp.cl fun i j hi hj => by
      have F := (frS_full (l := silL l l n) hm hp _ sil_has)
      exact Int.le_trans (F.2 i j hi hj) (wdP_ge F.1 i j hi hj)
    have k1 := gB_iff hn hm hp ok
    have k2 := gB_iff hn hm hq ok
    have : gB n m c L = true ↔ gB n m ca L = true := by
      rw [k1, k2]
      constructor
      · rintro ⟨nz, s, cs, sp, sL⟩
        exact ⟨nz, s, cs, fun i j hi hj => Int.le_trans (sp i j hi hj) (pq i j hi hj), sL⟩
      · rintro ⟨nz, s, cs, sq, sL⟩
        have e := (hS s cs fun j hj => Int.le_trans (sq 0 j (by omega) hj) (hq.low j hj)).1 sL
        obtain ⟨s', cs', sp', e'⟩ := same_core hn hm hp hq hi i1 hmx hh U ⟨s, cs, sq, e⟩
        exact ⟨nz, s', cs', sp', (hS s' cs' fun j hj => Int.le_trans (sp' 0 j (by omega) hj) (hp.low j hj)).2 e'⟩
    cases x : gB n m c L <;> cases y : gB n m ca L
    · rfl
    · rw [x, y] at this; exact absurd (this.2 rfl) (by decide)
    · rw [x, y] at this; exact absurd (this.1 rfl) (by decide)
    · rfl
def Llo (i : Nat) (lw : Int) : Lims := ⟨1, fun _ => 0, fun _ => (i : Int), fun _ => lw⟩
def Lhi (i : Nat) (hg : Int) : Lims := ⟨1, fun _ => (i : Int), fun _ => 0, fun _ => hg⟩
def Lbo (i : Nat) (lw hg : Int) : Lims := ⟨2, fun k => if k = 0 then 0 else (i : Int), fun k => if k = 0 then (i : Int) else 0, fun k => if k = 0 then lw else hg⟩
theorem says_lo {n i : Nat} {lw hg mx : Int} (hi : i ≤ n) (hh : Hd mx lw hg) : Says n i (Llo i lw) lw hg True False := by
  obtain ⟨a1, a2, a3, a4, a5, a6⟩ := hh
  refine ⟨?_, fun s cs low => ?_⟩
  · show (true && (decide ((0 : Int) ≤ 0 ∧ (0 : Int) ≤ n ∧ 0 ≤ (i : Int) ∧ (i : Int) ≤ n) && rightB lw)) = true
    rw [decide_eq_true (by omega), show rightB lw = true from decide_eq_true (.inr (by omega))]; rfl
  · rw [le_tl_all cs low]
    constructor
    · intro h
      refine ⟨fun _ => ?_, fun u => absurd u (by simp)⟩
      have := h 0 (by show 0 < 1; omega) (by show (0 : Int).toNat ≤ n; omega) (by show ((i : Nat) : Int).toNat ≤ n; omega) (by show ¬ lw = 2147483647; omega)
      simpa [Llo] using this
    · rintro ⟨h, -⟩ k hk _ _ _
      show s (0 : Int).toNat ((i : Nat) : Int).toNat ≤ lw
      simpa using h trivial
theorem says_hi {n i : Nat} {lw hg mx : Int} (hi : i ≤ n) (hh : Hd mx lw hg) : Says n i (Lhi i hg) lw hg False True := by
  obtain ⟨a1, a2, a3, a4, a5, a6⟩ := hh
  refine ⟨?_, fun s cs low => ?_⟩
  · show (true && (decide ((0 : Int) ≤ (i : Int) ∧ (i : Int) ≤ n ∧ (0 : Int) ≤ 0 ∧ (0 : Int) ≤ n) && rightB hg)) = true
    rw [decide_eq_true (by omega), show rightB hg = true from decide_eq_true (.inr (by omega))]; rfl
  · rw [le_tl_all cs low]
    constructor
    · intro h
      refine ⟨fun u => absurd u (by simp), fun _ => ?_⟩
      have := h 0 (by show 0 < 1; omega) (by show ((i : Nat) : Int).toNat ≤ n; omega) (by show (0 : Int).toNat ≤ n; omega) (by show ¬ hg = 2147483647; omega)
      simpa [Lhi] using this
    · rintro ⟨-, h⟩ k hk _ _ _
      show s ((i : Nat) : Int).toNat (0 : Int).toNat ≤ hg
      simpa using h trivial
theorem says_bo {n i : Nat} {lw hg mx : Int} (hi : i ≤ n) (hh : Hd mx lw hg) : Says n i (Lbo i lw hg) lw hg True True := by
  obtain ⟨a1, a2, a3, a4, a5, a6⟩ := hh
  refine ⟨?_, fun s cs low => ?_⟩
  · show (true && (decide ((0 : Int) ≤ 0 ∧ (0 : Int) ≤ n ∧ 0 ≤ (i : Int) ∧ (i : Int) ≤ n) && rightB lw) && (decide ((0 : Int) ≤ (i : Int) ∧ (i : Int) ≤ n ∧ (0 : Int) ≤ 0 ∧ (0 : Int) ≤ n) && rightB hg)) = true
    rw [decide_eq_true (by omega), decide_eq_true (by omega), show rightB lw = true from decide_eq_true (.inr (by omega)), show rightB hg = true from decide_eq_true (.inr (by omega))]; rfl
  · rw [le_tl_all cs low]
    constructor
    · intro h
      refine ⟨fun _ => ?_, fun _ => ?_⟩
      · have := h 0 (by show 0 < 2; omega) (by show (0 : Int).toNat ≤ n; omega) (by show ((i : Nat) : Int).toNat ≤ n; omega) (by show ¬ lw = 2147483647; omega)
        simpa [Lbo] using this
      · have := h 1 (by show 1 < 2; omega) (by show ((i : Nat) : Int).toNat ≤ n; omega) (by show (0 : Int).toNat ≤ n; omega) (by show ¬ hg = 2147483647; omega)
        simpa [Lbo] using this
    · rintro ⟨h, h'⟩ k hk _ _ _
      rcases (show k = 0 ∨ k = 1 by have : k < 2 := hk; omega) with rfl | rfl
      · show s (0 : Int).toNat ((i : Nat) : Int).toNat ≤ lw
        simpa using h trivial
      · show s ((i : Nat) : Int).toNat (0 : Int).toNat ≤ hg
        simpa using h' trivial
theorem meets_nil (b : Nat) (w : World) : Calls Tryd.prog 53 #[.pointer (some ⟨b, 0, none⟩), .pointer none] w fun e w' => e = .returned (.bool false) ∧ Below w.heap.size w w' := by
  have HA := hideD (alike_nil2 b w)
  go_enter Tryd.func53, Tryd.ntmps53
  go_wp2_with fail
  refine HA.out.mono ?_
  rintro e w1 ⟨rfl, k, rfl⟩
  go_wp2_with fail
  go_ret
  exact ⟨rfl, below_drewN (Below.refl _ _) k⟩
def GdOut (e : Ending) (t : Bool) : Prop := ∃ s : Bool, e = .returned (.tuple #[.bool t, .bool s])
set_option maxHeartbeats 2000000 in
theorem guarded_any {b n m cb cap : Nat} {c : Row} {L : Lims} {w : World} (hn : n ≤ 8) (hm : m = (n + 1) * (n + 1)) (hz : ZoneAt w b n c) (zc : ZC n m c) (hR : LimRow w cb 0 L) (hcb : cb < w.heap.size) (hi : ∀ k, k < L.q → -2147483648 ≤ L.b k ∧ L.b k ≤ 2147483647) (hq : L.q ≤ 9223372036854775807) (ok : okAll n L L.q = true) :
    Calls Tryd.prog 75 #[.pointer (some ⟨b, 0, none⟩), .slice (some ⟨cb, 0, none⟩) L.q cap] w fun e w' => GdOut e (gB n m c L) ∧ Below w.heap.size w w' := by
  have HD := hideD (dimZ_any b n w hz.clocks)
  have HL : Hid (Calls Tryd.prog 76 #[.int .i64 n, .slice (some ⟨cb, 0, none⟩) L.q cap] w fun e w' => ZoneOut w' w.heap.size n e (zoneR n (tlAll L L.q (startR n (n + 1) 0))) ∧ Below w.heap.size w w') := (limits_main n cb 0 cap L w hn hR hcb hi hq).mono fun e w' ⟨hb, h⟩ => by
    rcases h with ⟨h, -⟩ | ⟨-, h⟩
    · rw [ok] at h; cases h
    · exact ⟨h, hb⟩
  obtain ⟨o, ho⟩ : ∃ o, zoneR n (tlAll L L.q (startR n (n + 1) 0)) = o := ⟨_, rfl⟩
  have GB : Hid ((∀ d, o = some d → gB n m c L = (closeR n (drf n m (listOf (minR c d) m))).isSome) ∧ (o = none → gB n m c L = false)) := ⟨fun d hd => by unfold gB; rw [ho, hd], fun hd => by unfold gB; rw [ho, hd]⟩
  have HM : Hid (∀ w' d z, o = some d → ZoneAt w' b n c → ZoneAt w' z n d → Calls Tryd.prog 53 #[.pointer (some ⟨b, 0, none⟩), .pointer (some ⟨z, 0, none⟩)] w' fun e w'' => e = .returned (.bool (gB n m c L)) ∧ Below w'.heap.size w' w'') := fun w' d z hd h1 h2 => by
    have c1 := zc_32 hm zc
    have c2 : C32 d := zoneR_32 (ho.trans hd)
    have H := meets_any b z n m c d w' h1 h2 hn hm c1 c2
    rw [tgAll_two n m c d _ hm (fun j => (c1 j).2) (fun j => (c2 j).2)] at H
    rw [GB.out.1 d hd]
    exact H
  have Z := hideD hz
  rw [ho] at HL
  clear hz hR hi ho ok zc
  generalize hg : gB n m c L = g at *
  go_enter Tryd.func75, Tryd.ntmps75
  go_wp2_with fail
  refine HD.out.mono ?_
  rintro e w1 ⟨rfl, rfl⟩
  clear HD
  go_wp2_with fail
  refine HL.out.mono ?_
  rintro e w2 ⟨hO, hb2⟩
  have B2 := hideD hb2
  have Z2 := hideD (Z.out.past hb2)
  clear HL hb2 Z
  cases o with
  | none =>
    obtain rfl : e = errOf 10 := hO
    have eg := GB.out.2 rfl
    subst eg
    have HN := hideD (meets_nil b w2)
    clear HM GB
    go_wp2_with fail
    refine HN.out.mono ?_
    rintro e w3 ⟨rfl, hb3⟩
    go_wp2_with fail
    exact bodyPost_ret (v := .tuple #[.bool false, .bool false]) (by simp [results, Tryd.results75, go_sem]) rfl ⟨⟨_, rfl⟩, beyondD B2.out hb3⟩
  | some d =>
    obtain ⟨z, -, rfl, hzd⟩ := hO
    have HM2 := hideD (HM.out w2 d z rfl Z2.out hzd)
    clear HM GB hzd
    go_wp2_with fail
    refine HM2.out.mono ?_
    rintro e w3 ⟨rfl, hb3⟩
    go_wp2_with fail
    exact bodyPost_ret (v := .tuple #[.bool g, .bool true]) (by simp [results, Tryd.results75, go_sem]) rfl ⟨⟨_, rfl⟩, beyondD B2.out hb3⟩
end Go.Proofs.YtmicgojhceeapaaDoor
