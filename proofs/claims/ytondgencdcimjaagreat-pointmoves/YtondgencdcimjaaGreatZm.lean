/-
  The document's Right and Wait of valuations.
-/
import Derived.Test.YtondgencdcimjaaGreatHrPz
import Derived.Test.YtondgencdcimjaaGreatZy
import Derived.Test.YtondgencdcimjaaGreatPl3z
import Derived.Lib.BufferMore
namespace Go.Proofs.YtondgencdcimjaaGreat
open Go.RowKit Go.Shelf
set_option linter.unusedVariables false
set_option maxRecDepth 100000
theorem rightL_split {L : Rats} {q : Nat} (hq : L.q = q) (h : okL L q = true) : rightL L = decide ((q : Int) ≤ 8) := by
  unfold rightL
  rw [hq, h, Bool.and_true]
  rw [decide_eq_decide]
  omega
theorem rightL_no {L : Rats} {q : Nat} (hq : L.q = q) (h : okL L q = false) : rightL L = false := by
  unfold rightL
  rw [hq, h, Bool.and_false]
set_option maxHeartbeats 2000000 in
theorem rright6_any (ad : Option Addr) (cap q : Nat) (L : Rats) (w : World) (hq : L.q = q) (q1 : q ≤ 9223372036854775807) (hV : RatV w ad L) (hI : RatI L) :
    Calls Tryz.prog 25 #[.slice ad q cap] w fun e w' => e = .returned (.bool (rightL L)) ∧ Below w.heap.size w w' := by
  have HV := hideR hV
  have HI := hideR hI
  have HQ := hideR hq
  clear hV hI hq
  go_enter Tryz.func25, Tryz.ntmps25
  go_wp2_with fail
  go_loopw [3] (fun s wr => ∃ (K : Nat), K ≤ q ∧ s = .int .i64 (K : Int) ∧ Hid (okL L K = true) ∧ Hid (Below w.heap.size w wr)) (fun s _ => q - (intOf s).toNat)
  case atStart => exact ⟨0, by omega, rfl, rfl, Below.refl _ _⟩
  case round =>
    obtain ⟨K, hK, rfl, O, B⟩ := hrel
    by_cases ck : K < q
    · obtain ⟨b, off, rfl, c0, c1⟩ := (HV.out.later B.out) K (by rw [HQ.out]; exact ck)
      have k0 : (K : Int) < (q : Int) := by omega
      have k1 : (0 : Int) ≤ (K : Int) := by omega
      have iK := HI.out K (by rw [HQ.out]; exact ck)
      have HR := hideR (askY (L.n K) (L.d K) iK.1 iK.2)
      have ON : Hid (okL L (K + 1) = okR (L.n K) (L.d K)) := by show _ = _; rw [okL, O.out]; simp
      clear iK
      generalize L.n K = x at *
      generalize L.d K = y at *
      cases o : rightR x y with
      | false =>
        rw [o] at HR
        have F : Hid (rightL L = false) := rightL_no HQ.out (okL_false q (show K + 1 ≤ q by omega) (by rw [ON.out]; simp [okR, o]))
        clear ON
        go_wp2_with fail
        refine (HR.out _).mono ?_
        rintro e w1 ⟨rfl, hb⟩
        have B1 := hideR (beyond B.out hb)
        clear hb B HR c0 c1
        go_wp2_with fail
        go_ret
        exact ⟨by rw [F.out]; rfl, B1.out⟩
      | true =>
        rw [o] at HR
        by_cases x0 : x < 0
        · have F : Hid (rightL L = false) := rightL_no HQ.out (okL_false q (show K + 1 ≤ q by omega) (by rw [ON.out]; simp [okR, o, x0]))
          clear ON
          go_wp2_with fail
          refine (HR.out _).mono ?_
          rintro e w1 ⟨rfl, hb⟩
          have B1 := hideR (beyond B.out hb)
          have c0 := kc _ _ hb c0
          clear hb B HR c1
          go_wp2_with fail
          go_ret
          exact ⟨by rw [F.out]; rfl, B1.out⟩
        · have ON2 : Hid (okL L (K + 1) = true) := by show _ = _; rw [ON.out]; simp [okR, o]; omega
          clear ON
          go_wp2_with fail
          refine (HR.out _).mono ?_
          rintro e w1 ⟨rfl, hb⟩
          have B1 := hideR (beyond B.out hb)
          have c0 := kc _ _ hb c0
          clear hb B HR c1
          go_wp2_with fail
          go_roundw
          case rel => exact ⟨K + 1, by omega, by go_num, ON2, B1⟩
          case measure => simp [intOf]; omega
    · have eK : K = q := by omega
      have F : Hid (rightL L = decide ((q : Int) ≤ 8)) := rightL_split HQ.out (by rw [← eK]; exact O.out)
      have k0 : ¬ (K : Int) < (q : Int) := by omega
      clear eK O
      go_wp2_with fail
      go_ret
      exact ⟨by rw [F.out]; rfl, B.out⟩
theorem newPairQ {Y w' : World} {T : TypeId} (hb : Below (Y.alloc (.cells #[.int .i64 0, .int .i64 0] T)).heap.size (Y.alloc (.cells #[.int .i64 0, .int .i64 0] T)) w') :
    w'.cell? ⟨Y.heap.size, 0, none⟩ = some (.int .i64 0) ∧ w'.cell? ⟨Y.heap.size, 1, none⟩ = some (.int .i64 0) ∧ w'.frozen? ⟨Y.heap.size, 0, none⟩ = false ∧ w'.frozen? ⟨Y.heap.size, 1, none⟩ = false ∧ Y.heap.size < w'.heap.size ∧ ¬ w'.heap.size = Y.heap.size := by
  have c0 := kc ⟨Y.heap.size, 0, none⟩ (.int .i64 0) hb (by simp [go_sem])
  have c1 := kc ⟨Y.heap.size, 1, none⟩ (.int .i64 0) hb (by simp [go_sem])
  have k := World.block_lt_of_cell? _ _ c0
  have k : Y.heap.size < w'.heap.size := k
  exact ⟨c0, c1, kf _ (.int .i64 0) hb (by simp [go_sem]) (by simp [go_sem]), kf _ (.int .i64 0) hb (by simp [go_sem]) (by simp [go_sem]), k, by omega⟩
theorem newPairQD {Y w' : World} {T : TypeId} (hb : Below (Y.alloc (.cells #[.int .i64 0, .int .i64 0] T)).drew.heap.size (Y.alloc (.cells #[.int .i64 0, .int .i64 0] T)).drew w') :
    w'.cell? ⟨Y.heap.size, 0, none⟩ = some (.int .i64 0) ∧ w'.cell? ⟨Y.heap.size, 1, none⟩ = some (.int .i64 0) ∧ w'.frozen? ⟨Y.heap.size, 0, none⟩ = false ∧ w'.frozen? ⟨Y.heap.size, 1, none⟩ = false ∧ Y.heap.size < w'.heap.size ∧ ¬ w'.heap.size = Y.heap.size := newPairQ (Y := Y) (T := T) ⟨hb.os, hb.tape, hb.output, hb.size, hb.block⟩
theorem newPairQI {Y w' : World} {T : TypeId} (hb : Below (Y.drew.alloc (.cells #[.int .i64 0, .int .i64 0] T)).heap.size (Y.drew.alloc (.cells #[.int .i64 0, .int .i64 0] T)) w') :
    w'.cell? ⟨Y.heap.size, 0, none⟩ = some (.int .i64 0) ∧ w'.cell? ⟨Y.heap.size, 1, none⟩ = some (.int .i64 0) ∧ w'.frozen? ⟨Y.heap.size, 0, none⟩ = false ∧ w'.frozen? ⟨Y.heap.size, 1, none⟩ = false ∧ Y.heap.size < w'.heap.size ∧ ¬ w'.heap.size = Y.heap.size := newPairQ (Y := Y.drew) hb
/-- What waiting tells of right ones: 20, or each later. -/
theorem add_err {an ad dn dd : Int} (h : okR an ad = true) (hd : okR dn dd = true) : (addT an ad dn dd).2.2 = 0 ∨ (addT an ad dn dd).2.2 = 20 := by
  obtain ⟨r1, n1⟩ := okR_iff.1 h
  obtain ⟨r2, n2⟩ := okR_iff.1 hd
  have e : addT an ad dn dd = canR (an * dd + dn * ad) (ad * dd) := by
    unfold addT
    rw [r1, r2]
    rfl
  rw [e]
  show heldE _ _ _ = 0 ∨ heldE _ _ _ = 20
  unfold heldE
  split
  · exact .inl rfl
  · exact .inr rfl
theorem okL_get {L : Rats} : ∀ {m : Nat}, okL L m = true → ∀ k, k < m → okR (L.n k) (L.d k) = true
  | 0, _, k, hk => by omega
  | m + 1, h, k, hk => by
    rw [okL] at h
    simp only [Bool.and_eq_true] at h
    by_cases e : k = m
    · subst e; exact h.2
    · exact okL_get h.1 k (by omega)
theorem rightL_at {L : Rats} (h : rightL L = true) : L.q ≤ 8 ∧ ∀ k, k < L.q → okR (L.n k) (L.d k) = true := by
  unfold rightL at h
  simp only [Bool.and_eq_true, decide_eq_true_eq] at h
  exact ⟨h.1, okL_get h.2⟩
set_option maxHeartbeats 4000000 in
theorem rwait_any (ad : Option Addr) (q cap : Nat) (L : Rats) (n d : Int) (w : World) (hq : L.q = q) (q1 : q ≤ 9223372036854775807) (hV : RatV w ad L) (hI : RatI L) (hn : I64 n) (hd : I64 d) :
    Calls Tryz.prog 8 #[.slice ad q cap, rv n d] w fun e w' => ((rightL L && okR n d) = false ∧ e = .returned (.tuple #[.slice none 0 0, .int .i64 7]) ∨ (rightL L && okR n d) = true ∧ WaitOut w' w.heap.size L n d e) ∧ Below w.heap.size w w' := by
  obtain ⟨i0, hi, hz0, hz1, hz2⟩ := info_parts info_rat
  have Ba := hideR (single w (.cells #[.int .i64 n, .int .i64 d] 24))
  have HR := hideR (rright6_any ad cap q L _ hq q1 (hV.later Ba.out) hI)
  have HM := hideR (askY n d hn hd)
  have HV := hideR hV
  have HI := hideR hI
  have HQ := hideR hq
  have HN := hideR (show I64 n ∧ I64 d from ⟨hn, hd⟩)
  clear hV hI hn hd hq
  cases r : rightL L with
  | false =>
    rw [r] at HR
    go_enter Tryz.func8, Tryz.ntmps8
    go_wp2_with fail
    refine HR.out.mono ?_
    rintro e w1 ⟨rfl, hb⟩
    have B1 := hideR (beyond Ba.out hb)
    clear hb HR
    go_wp2_with fail
    go_ret2
    exact ⟨.inl ⟨rfl, rfl⟩, B1.out⟩
  | true =>
    rw [r] at HR
    have q8 : q ≤ 8 := by have := (rightL_at r).1; rw [HQ.out] at this; exact this
    have n1 : (q : Int) ≤ 8 := by omega
    cases o : rightR n d with
    | false =>
      rw [o] at HM
      have ok : okR n d = false := by simp [okR, o]
      rw [ok]
      go_enter Tryz.func8, Tryz.ntmps8
      go_wp2_with fail
      refine HR.out.mono ?_
      rintro e w1 ⟨rfl, hb⟩
      have s0 := kc ⟨w.heap.size, 0, none⟩ (.int .i64 n) hb (by simp [go_sem])
      have s1 := kc ⟨w.heap.size, 1, none⟩ (.int .i64 d) hb (by simp [go_sem])
      have B1 := hideR (beyond Ba.out hb)
      clear hb HR ok
      go_wp2_with fail
      refine (HM.out _).mono ?_
      rintro e w2 ⟨rfl, hb⟩
      have B2 := hideR (beyond B1.out hb)
      clear hb HM B1 s0 s1
      go_wp2_with fail
      go_ret2
      exact ⟨.inl ⟨rfl, rfl⟩, B2.out⟩
    | true =>
      rw [o] at HM
      by_cases x0 : n < 0
      · have ok : okR n d = false := by simp [okR, o]; omega
        rw [ok]
        go_enter Tryz.func8, Tryz.ntmps8
        go_wp2_with fail
        refine HR.out.mono ?_
        rintro e w1 ⟨rfl, hb⟩
        have s0 := kc ⟨w.heap.size, 0, none⟩ (.int .i64 n) hb (by simp [go_sem])
        have s1 := kc ⟨w.heap.size, 1, none⟩ (.int .i64 d) hb (by simp [go_sem])
        have B1 := hideR (beyond Ba.out hb)
        clear hb HR ok
        go_wp2_with fail
        refine (HM.out _).mono ?_
        rintro e w2 ⟨rfl, hb⟩
        have B2 := hideR (beyond B1.out hb)
        have s0 := kc _ _ hb s0
        clear hb HM B1 s1
        go_wp2_with fail
        go_ret2
        exact ⟨.inl ⟨rfl, rfl⟩, B2.out⟩
      · have ok : okR n d = true := by simp [okR, o]; omega
        rw [ok]
        clear ok r o
        go_enter Tryz.func8, Tryz.ntmps8
        go_wp2_with fail
        refine HR.out.mono ?_
        rintro e w1 ⟨rfl, hb⟩
        have s0 := kc ⟨w.heap.size, 0, none⟩ (.int .i64 n) hb (by simp [go_sem])
        have s1 := kc ⟨w.heap.size, 1, none⟩ (.int .i64 d) hb (by simp [go_sem])
        have B1 := hideR (beyond Ba.out hb)
        clear hb HR
        go_wp2_with fail
        refine (HM.out _).mono ?_
        rintro e w2 ⟨rfl, hb⟩
        have B2 := hideR (beyond B1.out hb)
        have s0 := kc _ _ hb s0
        have s1 := kc _ _ hb s1
        clear hb HM B1
        go_wp2_with fail
        have HS : Hid (w2.cell? ⟨w.heap.size, 0, none⟩ = some (.int .i64 n) ∧ w2.cell? ⟨w.heap.size, 1, none⟩ = some (.int .i64 d)) := ⟨s0, s1⟩
        clear s0 s1 x0
        go_loopw [6, 7] (fun l s wr => ∃ (K : Nat) (v : Value), K ≤ q ∧ l = v ∧ s = .int .i64 (K : Int) ∧ Hid (∀ k, k < K → (addT (L.n k) (L.d k) n d).2.2 = 0) ∧ Hid (wr.ownsRow w2.heap.size 24 2 v K (ratCk (waitL L n d) K)) ∧ Hid (Below w2.heap.size w2 wr)) (fun _ s _ => q - (intOf s).toNat)
        case atStart => exact ⟨0, _, Nat.zero_le _, rfl, rfl, fun k hk => absurd hk (Nat.not_lt_zero _), World.ownsRow_nil _ _ _ _, Below.refl _ _⟩
        case round =>
          obtain ⟨K, v, hK, hv, rfl, E, O, B⟩ := hrel
          replace hv := hv.symm
          subst hv
          by_cases ck : K < q
          · obtain ⟨b, off, rfl, e0, e1⟩ := HV.out K (by rw [HQ.out]; exact ck)
            have e0 := kc _ _ (beyond B2.out B.out) e0
            have e1 := kc _ _ (beyond B2.out B.out) e1
            have s0 := kc _ _ B.out HS.out.1
            have s1 := kc _ _ B.out HS.out.2
            have k0 : (K : Int) < (q : Int) := by omega
            have k1 : (0 : Int) ≤ (K : Int) := by omega
            have iK := HI.out K (by rw [HQ.out]; exact ck)
            have HL := hideR (fun W => xadd_any (L.n K) (L.d K) n d W iK.1 iK.2 HN.out.1 HN.out.2)
            have RN : Hid (ratCk (waitL L n d) (K + 1) = ratCk (waitL L n d) K ++ [.int .i64 (addT (L.n K) (L.d K) n d).1, .int .i64 (addT (L.n K) (L.d K) n d).2.1]) := ratCk_next _ K
            obtain ⟨T, eT⟩ : ∃ T, T = addT (L.n K) (L.d K) n d := ⟨_, rfl⟩
            have HT := hideR eT
            rw [← eT] at HL RN
            clear iK eT
            generalize L.n K = x at HL e0 e1
            generalize L.d K = y at HL e0 e1
            obtain ⟨t0, t1, t2⟩ := T
            generalize w.heap.size = bx at s0 s1 ⊢
            go_upto_region 7 with (fail)
            have BB := Below.refl wr.heap.size wr
            have BD : Below wr.heap.size wr wr.drew := (Below.refl _ _).drew
            have kx0 : bx < wr.heap.size := World.block_lt_of_cell? _ _ s0
            have kx : ¬ wr.heap.size = bx := by omega
            have kb0 : b < wr.heap.size := World.block_lt_of_cell? _ _ e0
            have kb : ¬ wr.heap.size = b := by omega
            have d0 : wr.drew.cell? ⟨bx, 0, none⟩ = some (.int .i64 n) := s0
            have d1 : wr.drew.cell? ⟨bx, 1, none⟩ = some (.int .i64 d) := s1
            have d2 : wr.drew.cell? ⟨b, off + K * 2, none⟩ = some (.int .i64 x) := e0
            have d3 : wr.drew.cell? ⟨b, off + K * 2 + 1, none⟩ = some (.int .i64 y) := e1
            go_cut [8, 9] (fun p q' w' => ∃ nb : Nat, p = .pointer (some ⟨nb, 0, none⟩) ∧ q' = .int .i64 t2 ∧ w'.cell? ⟨nb, 0, none⟩ = some (.int .i64 t0) ∧ w'.cell? ⟨nb, 1, none⟩ = some (.int .i64 t1) ∧ Below wr.heap.size wr w')
            case first =>
              go_region_held3 (fun w' => w'.cell? ⟨bx, 0, none⟩ = some (.int .i64 n) ∧ w'.cell? ⟨bx, 1, none⟩ = some (.int .i64 d) ∧ w'.cell? ⟨b, off + K * 2, none⟩ = some (.int .i64 x) ∧ w'.cell? ⟨b, off + K * 2 + 1, none⟩ = some (.int .i64 y))
                (first | exact ⟨by with_reducible assumption, by with_reducible assumption, by with_reducible assumption, by with_reducible assumption⟩ | go_keep)
                (first | (go_at_call 40; refine (HL.out _).mono ?_; rintro e' w' ⟨rfl, hb⟩; have v0 := kc ⟨bx, 0, none⟩ (.int .i64 n) hb (by first | with_reducible assumption | with_reducible exact kc _ _ (single _ _) (by assumption) | assumption | simp [go_sem, *]); have v1 := kc ⟨bx, 1, none⟩ (.int .i64 d) hb (by first | with_reducible assumption | with_reducible exact kc _ _ (single _ _) (by assumption) | assumption | simp [go_sem, *]); have v4 := kc ⟨b, off + K * 2, none⟩ (.int .i64 x) hb (by first | with_reducible assumption | with_reducible exact kc _ _ (single _ _) (by assumption) | assumption | simp [go_sem, *]); have v5 := kc ⟨b, off + K * 2 + 1, none⟩ (.int .i64 y) hb (by first | with_reducible assumption | with_reducible exact kc _ _ (single _ _) (by assumption) | assumption | simp [go_sem, *]); (first | (with_reducible (have zz := newPairQ hb); obtain ⟨z0, z1, q0, q1, q2, q3⟩ := zz) | (with_reducible (have zz := newPairQD hb); obtain ⟨z0, z1, q0, q1, q2, q3⟩ := zz) | (with_reducible (have zz := newPairQI hb); obtain ⟨z0, z1, q0, q1, q2, q3⟩ := zz) | skip); have hX := beyond (w := wr) (by first | with_reducible assumption | exact Below.drew (by assumption) | exact Below.alloc (by assumption) (Below.size (by assumption)) _ | exact Below.alloc (Below.drew (by assumption)) (Below.size (by assumption)) _ | exact Below.drew (Below.alloc (by assumption) (Below.size (by assumption)) _)) hb))
              all_goals go_wp2_with fail
              all_goals go_meet
              all_goals refine ⟨_, rfl, rfl, ?_, ?_, ?_⟩
              all_goals first | (simp [go_sem]; done) | (simp [go_sem, *]; done) | exact Below.alloc (by assumption) (Below.size (by assumption)) _ | exact set2 (by assumption) (Nat.le_refl _) _ _
            case rest =>
              clear s0 s1 e0 e1 HL BB BD d0 d1 d2 d3 kx kx0 kb kb0
              obtain ⟨nb, rfl, rfl, r0, r1, hbb⟩ := hcut
              have O1 : wc.ownsRow w2.heap.size 24 2 v K (ratCk (waitL L n d) K) := World.ownsRow.kept O.out (grown_below hbb (Nat.le_refl _)) (by cases v.ownBlock <;> simp)
              have B1 := hideR (beyond B.out hbb)
              clear hbb
              by_cases tz : t2 = 0
              · subst tz
                go_wp2_with (at_builtin; refine wp_app_any _ rfl _ _ 22 rfl w2.heap.size 24 i0 (.agg #[.int .i64 0, .int .i64 0]) 2 16 Tryz.underlying22 hi hz0 hz1 hz2 rfl (by decide) _ K _ rfl (O1.alloc _) _ 1 1 [.int .i64 t0, .int .i64 t1] rfl (fun e => by cases e) rfl (fun d e j u h => two_news _ _ _ _ d (by rw [← e]) j u h) (by simp [Value.oneCell']) (by unfold maxLen; omega) (by omega) (by have := B1.out.size; simp; omega) ?_; intro v' w5 hown hgrow)
                have B5 : Hid (Below w2.heap.size w2 w5) := by
                  have h2 := beyond B1.out (single wc (.cells #[.int .i64 t0, .int .i64 t1] 24))
                  rcases hgrow with e | hg
                  · rw [e]; exact h2
                  · exact h2.grown hg h2.size (fun k hk => own_ge O1 k hk)
                have O5 : Hid (w5.ownsRow w2.heap.size 24 2 v' (K + 1) (ratCk (waitL L n d) (K + 1))) := by
                  show w5.ownsRow _ _ _ _ _ _
                  rw [RN.out]
                  exact hown
                have E5 : Hid (∀ k, k < K + 1 → (addT (L.n k) (L.d k) n d).2.2 = 0) := fun k hk => by
                  by_cases e : k = K
                  · subst e
                    rw [← HT.out]
                  · exact E.out k (by omega)
                clear hown hgrow O1 B1 O B RN
                go_wp2_with fail
                go_roundw
                case rel => exact ⟨K + 1, v', by omega, rfl, by go_num, E5, O5, B5⟩
                case measure => simp [intOf]; omega
              · have tz' : (t2 != 0) = true := by simpa using tz
                have W0 : Hid (∃ K, K < L.q ∧ (addT (L.n K) (L.d K) n d).2.2 ≠ 0 ∧ t2 = (addT (L.n K) (L.d K) n d).2.2) := ⟨K, by rw [HQ.out]; exact ck, by rw [← HT.out]; exact tz, by rw [← HT.out]⟩
                have BF := hideR (beyond B2.out B1.out)
                clear O1 B1 O B RN HT E
                go_wp2_with fail
                go_ret2
                obtain ⟨K', h1, h2, h3⟩ := W0.out
                exact ⟨.inr ⟨rfl, .inl ⟨K', h1, h2, by rw [← h3]; rfl⟩⟩, BF.out⟩
          · have eK : K = q := by omega
            have k0 : ¬ (K : Int) < (q : Int) := by omega
            have O2 := O.out
            rw [eK] at O2
            obtain ⟨ad2, cap2, rfl, h1, h2, h3⟩ := own_ratV (n := q) (L := waitL L n d) HQ.out O2
            have HH : Hid (WaitOut wr w.heap.size L n d (.returned (.tuple #[.slice ad2 q cap2, .int .i64 0]))) := .inr ⟨fun k hk => E.out k (by rw [eK, ← HQ.out]; exact hk), ad2, cap2, by rw [HQ.out], fun h => by rw [HQ.out]; exact h1 h, h2, by rw [HQ.out]; exact h3.mono B2.out.size⟩
            have BF := hideR (beyond B2.out B.out)
            clear O O2 eK h1 h2 h3 E
            go_wp2_with fail
            go_ret2
            first | exact ⟨.inr ⟨rfl, HH.out⟩, BF.out⟩ | exact ⟨HH.out, BF.out⟩ | exact ⟨.inr HH.out, BF.out⟩
end Go.Proofs.YtondgencdcimjaaGreat

/-
  A clock set: by the program, and by the document.
-/
namespace Go.Proofs.YtondgencdcimjaaGreat
open Go.RowKit Go.Shelf
set_option linter.unusedVariables false
set_option maxRecDepth 100000
theorem ratC_ck (L : Rats) : ratC L = ratCk L L.q := rfl
/-- What waiting tells, as a list and an error. -/
def waitT (L : Rats) (n d : Int) : Rats × Int := if (rightL L && okR n d) = true then (if (List.range L.q).all (fun k => decide ((addT (L.n k) (L.d k) n d).2.2 = 0)) = true then (waitL L n d, 0) else (L0, 20)) else (L0, 7)
theorem wait_tells {L : Rats} {n d : Int} {w w' : World} {e : Ending} (h : (rightL L && okR n d) = false ∧ e = .returned (.tuple #[.slice none 0 0, .int .i64 7]) ∨ (rightL L && okR n d) = true ∧ WaitOut w' w.heap.size L n d e) : Tells (waitT L n d).1 (waitT L n d).2 w w' e := by
  unfold waitT
  rcases h with ⟨h1, rfl⟩ | ⟨h1, h2⟩
  · rw [if_neg (by rw [h1]; decide)]
    exact tells_nil 7 w w'
  · rw [if_pos h1]
    obtain ⟨a1, a2⟩ := Bool.and_eq_true_iff.1 h1
    rcases h2 with ⟨K, hK, hne, rfl⟩ | ⟨h0, ad, cap, rfl, n1, n2, n3⟩
    · have e20 : (addT (L.n K) (L.d K) n d).2.2 = 20 := by
        rcases add_err ((rightL_at a1).2 K hK) a2 with h | h
        · exact absurd h hne
        · exact h
      rw [if_neg (fun h => hne (of_decide_eq_true (List.all_eq_true.1 h K (List.mem_range.2 hK)))), e20]
      exact tells_nil 20 w w'
    · rw [if_pos (List.all_eq_true.2 fun k hk => decide_eq_true (h0 k (List.mem_range.1 hk)))]
      exact ⟨ad, cap, rfl, n1, n2, n3⟩
/-- With a clock set. -/
def setL (L : Rats) (j : Nat) (x : Int) : Rats := ⟨L.q, fun k => if k = j then x else L.n k, fun k => if k = j then 1 else L.d k⟩
def setT (L : Rats) (ck x : Int) : Rats × Int := if rightL L = true then (if 1 ≤ ck ∧ ck ≤ L.q then (if 0 ≤ x ∧ x ≤ 1048576 then (setL L (ck - 1).toNat x, 0) else (L0, 13)) else (L0, 12)) else (L0, 7)
theorem setL_cells (L : Rats) (j : Nat) (x : Int) (hj : j < L.q) : ((ratCk L L.q).set (j * 2) (.int .i64 x)).set (j * 2 + 1) (.int .i64 1) = ratCk (setL L j x) L.q := by
  have len : (ratCk L L.q).length = L.q * 2 := by simp [ratCk]
  apply List.ext_getElem?
  intro t
  have get : ∀ M : Rats, t < L.q * 2 → (ratCk M L.q)[t]? = some (ratJ M t) := fun M ht => by unfold ratCk; rw [List.getElem?_map, List.getElem?_range ht]; rfl
  by_cases ht : t < L.q * 2
  · rw [get _ ht]
    by_cases e1 : t = j * 2 + 1
    · subst e1
      rw [List.getElem?_set_self (by rw [List.length_set, len]; exact ht)]
      unfold ratJ setL
      rw [if_neg (by omega), show (j * 2 + 1) / 2 = j by omega]
      simp
    · rw [List.getElem?_set_ne (by omega)]
      by_cases e2 : t = j * 2
      · subst e2
        rw [List.getElem?_set_self (by rw [len]; exact ht)]
        unfold ratJ setL
        rw [if_pos (by omega), show j * 2 / 2 = j by omega]
        simp
      · rw [List.getElem?_set_ne (by omega), get _ ht]
        unfold ratJ setL
        simp only [show ¬ t / 2 = j by omega, if_false]
  · rw [List.getElem?_eq_none (by rw [List.length_set, List.length_set, len]; omega), List.getElem?_eq_none (by simp [ratCk]; omega)]
theorem set_own {W : World} {base g cap j : Nat} {L : Rats} {x : Int} (hj : j < L.q) (h : W.ownsRow base 24 2 (.slice (some ⟨g, 0, none⟩) L.q cap) L.q (ratCk L L.q)) :
    ((W.setCell ⟨g, j * 2, none⟩ (.int .i64 x)).setCell ⟨g, j * 2 + 1, none⟩ (.int .i64 1)).ownsRow base 24 2 (.slice (some ⟨g, 0, none⟩) L.q cap) L.q (ratCk (setL L j x) L.q) := by
  obtain ⟨o1, -⟩ := World.ownsRow.stored h (j * 2) (.int .i64 x)
  obtain ⟨o2, -⟩ := World.ownsRow.stored o1 (j * 2 + 1) (.int .i64 1)
  rw [setL_cells L j x hj] at o2
  exact o2
set_option maxHeartbeats 1000000 in
theorem clone_any (b off cap : Nat) (L : Rats) (w : World) (hq : L.q ≤ 8) (hV : RatV w (some ⟨b, off, none⟩) L) :
    Calls Tryz.prog 41 #[.slice (some ⟨b, off, none⟩) L.q cap] w fun e w' => (∃ v, e = .returned v ∧ w'.ownsRow w.heap.size 24 2 v L.q (ratCk L L.q)) ∧ Below w.heap.size w w' := by
  obtain ⟨i0, hi, hz0, hz1, hz2⟩ := info_parts info_rat
  have HV := hideR hV
  have he := Lib.run_eql_slice_some_nil (P := Tryz.prog) w (t := 22) ⟨b, off, none⟩ L.q cap Tryz.underlying22
  clear hV
  go_enter Tryz.func41, Tryz.ntmps41
  go_wp2_with (at_builtin; refine wp_app_any _ rfl _ _ 22 rfl w.heap.size 24 i0 (.agg #[.int .i64 0, .int .i64 0]) 2 16 Tryz.underlying22 hi hz0 hz1 hz2 rfl (by decide) _ 0 [] rfl (World.ownsRow_lit w #[] 0 (Nat.le_refl _) (by decide) rfl) (some ⟨b, off, none⟩) L.q cap (ratC L) rfl (fun e => by cases e) (by rw [ratC_len]) (fun d e j u h => ratC_news (L := L) (d := d) (e ▸ HV.out.later (single _ _)) j u h) (ratC_one L) (by unfold maxLen; omega) (by omega) (by simp) ?_; intro v' w2 hown hgrow)
  have hb2 : Hid (Below w.heap.size w w2) := by
    rcases hgrow with e | hg
    · rw [e]; exact single _ _
    · exact (single w _).grown hg (by simp) (fun k hk => own_le hk)
  have hown' : Hid (w2.ownsRow w.heap.size 24 2 v' L.q (ratCk L L.q)) := by
    have := hown
    rw [Nat.zero_add, List.nil_append] at this
    exact this
  clear hown hgrow
  go_ret
  exact ⟨⟨_, rfl, hown'.out⟩, hb2.out⟩
set_option maxHeartbeats 4000000 in
theorem pset_any (ad : Option Addr) (q cap : Nat) (L : Rats) (ck x : Int) (w : World) (hq : L.q = q) (q1 : q ≤ 9223372036854775807) (hV : RatV w ad L) (hI : RatI L) (ic : I64 ck) :
    Calls Tryz.prog 9 #[.slice ad q cap, .int .i64 ck, .int .i64 x] w fun e w' => Tells (setT L ck x).1 (setT L ck x).2 w w' e ∧ Below w.heap.size w w' := by
  have HR := hideR (pright_any ad cap q L w hq q1 hV hI)
  have HV := hideR hV
  have HQ := hideR hq
  have c1 : -9223372036854775808 ≤ ck := ic.1
  have c2 : ck ≤ 9223372036854775807 := ic.2
  unfold setT
  clear hV hI ic
  cases r : rightL L with
  | false =>
    rw [r] at HR
    rw [if_neg (by decide)]
    have T := hideR (fun W => tells_nil 7 w W)
    go_enter Tryz.func9, Tryz.ntmps9
    go_wp2_with fail
    refine HR.out.mono ?_
    rintro e w1 ⟨rfl, hb⟩
    have B1 := hideR hb
    clear hb HR
    go_wp2_with fail
    go_ret2
    exact ⟨T.out _, B1.out⟩
  | true =>
    rw [r] at HR
    rw [if_pos rfl, hq]
    have q8 : q ≤ 8 := by have := (rightL_at r).1; rw [hq] at this; exact this
    by_cases k1 : 1 ≤ ck
    · by_cases k2 : ck ≤ (q : Int)
      · rw [if_pos ⟨k1, k2⟩]
        by_cases x1 : 0 ≤ x
        · by_cases x2 : x ≤ 1048576
          · rw [if_pos ⟨x1, x2⟩]
            obtain ⟨j, hj⟩ : ∃ j : Nat, ck = (j : Int) + 1 := ⟨(ck - 1).toNat, by omega⟩
            have ej : (ck - 1).toNat = j := by omega
            rw [ej]
            have jq : j < q := by omega
            obtain ⟨b, off, rfl, -, -⟩ := HV.out j (by rw [HQ.out]; exact jq)
            have j0 : (0 : Int) ≤ (j : Int) := by omega
            have j1 : (j : Int) < (q : Int) := by omega
            have HO := hideR (fun W => ratOf_any x W)
            have ew : ck - 1 = (j : Int) := by omega
            clear ej r hj
            have HC := hideR (fun W (hb : Below w.heap.size w W) => clone_any b off cap L W (by omega) (HV.out.later hb))
            rw [HQ.out] at HC
            go_enter Tryz.func9, Tryz.ntmps9
            go_wp2_with fail
            refine HR.out.mono ?_
            rintro e w1 ⟨rfl, hb⟩
            have B1 := hideR hb
            have H1 := hideR (HC.out w1 hb)
            clear hb HR HC
            go_wp2_with fail
            refine H1.out.mono ?_
            rintro e w2 ⟨⟨v2, rfl, ho⟩, hb⟩
            have OW := hideR ho
            have B2 := hideR (beyond B1.out hb)
            clear ho hb H1
            have hown := OW.out
            obtain ⟨g, cap2, rfl⟩ : ∃ g cap2, v2 = .slice (some ⟨g, 0, none⟩) q cap2 := by
              rcases hown.2 with ⟨_, h0⟩ | ⟨g, cap2, cur, e, _⟩
              · omega
              · exact ⟨g, cap2, e⟩
            have HB2 := hideR B2.out
            clear hown B2
            go_wp2_with fail
            refine (HO.out _).mono ?_
            rintro e w3 ⟨rfl, hb⟩
            have O3 : w3.ownsRow w1.heap.size 24 2 (.slice (some ⟨g, 0, none⟩) q cap2) q (ratCk L q) := World.ownsRow.kept OW.out (grown_below hb (Nat.le_refl _)) (by simp [Value.ownBlock])
            obtain ⟨y0, z0⟩ : ∃ y, (ratCk L q)[j * 2]? = some y := ⟨_, List.getElem?_eq_getElem (by simp [ratCk]; omega)⟩
            obtain ⟨y1, z1⟩ : ∃ y, (ratCk L q)[j * 2 + 1]? = some y := ⟨_, List.getElem?_eq_getElem (by simp [ratCk]; omega)⟩
            have d0 := O3.cellAt (j * 2) (by omega)
            have d1 := O3.cellAt (j * 2 + 1) (by omega)
            rw [z0] at d0
            rw [z1] at d1
            have f0 := O3.frozenAt (j * 2)
            have f1 := O3.frozenAt (j * 2 + 1)
            have gl := (O3.lt g rfl).1
            have O4 := HQ.out ▸ O3
            have TT : Hid (Tells (setL L j x) 0 w ((w3.setCell ⟨g, j * 2, none⟩ (.int .i64 x)).setCell ⟨g, j * 2 + 1, none⟩ (.int .i64 1)) (.returned (.tuple #[.slice (some ⟨g, 0, none⟩) q cap2, .int .i64 0]))) := by
              have h := set_own (x := x) (j := j) (L := L) (by rw [HQ.out]; exact jq) (by rw [HQ.out]; exact O3)
              obtain ⟨ad5, cap5, e5, h1, h2, h3⟩ := own_ratV (L := setL L j x) rfl h
              injection e5 with e6 e7 e8
              subst e6 e8
              refine ⟨some ⟨g, 0, none⟩, cap2, ?_, h1, h2, h3.mono B1.out.size⟩
              show Ending.returned _ = Ending.returned _
              rw [show (setL L j x).q = q from HQ.out]
            have BF : Hid (Below w.heap.size w ((w3.setCell ⟨g, j * 2, none⟩ (.int .i64 x)).setCell ⟨g, j * 2 + 1, none⟩ (.int .i64 1))) := ((beyond HB2.out hb).setCell (p := ⟨g, j * 2, none⟩) (Nat.le_trans B1.out.size gl) _).setCell (p := ⟨g, j * 2 + 1, none⟩) (Nat.le_trans B1.out.size gl) _
            clear hb HO O3 O4 OW z0 z1 gl HB2
            go_wp2_with fail
            go_ret2
            exact ⟨TT.out, BF.out⟩
          · rw [if_neg (fun h => x2 h.2)]
            have T := hideR (fun W => tells_nil 13 w W)
            go_enter Tryz.func9, Tryz.ntmps9
            go_wp2_with fail
            refine HR.out.mono ?_
            rintro e w1 ⟨rfl, hb⟩
            have B1 := hideR hb
            clear hb HR
            go_wp2_with fail
            go_ret2
            exact ⟨T.out _, B1.out⟩
        · rw [if_neg (fun h => x1 h.1)]
          have x1' : x < 0 := by omega
          have T := hideR (fun W => tells_nil 13 w W)
          go_enter Tryz.func9, Tryz.ntmps9
          go_wp2_with fail
          refine HR.out.mono ?_
          rintro e w1 ⟨rfl, hb⟩
          have B1 := hideR hb
          clear hb HR x1
          go_wp2_with fail
          go_ret2
          exact ⟨T.out _, B1.out⟩
      · rw [if_neg (fun h => k2 h.2)]
        have k2' : ck > (q : Int) := by omega
        have T := hideR (fun W => tells_nil 12 w W)
        go_enter Tryz.func9, Tryz.ntmps9
        go_wp2_with fail
        refine HR.out.mono ?_
        rintro e w1 ⟨rfl, hb⟩
        have B1 := hideR hb
        clear hb HR k2
        go_wp2_with fail
        go_ret2
        exact ⟨T.out _, B1.out⟩
    · rw [if_neg (fun h => k1 h.1)]
      have k1' : ck < 1 := by omega
      have T := hideR (fun W => tells_nil 12 w W)
      go_enter Tryz.func9, Tryz.ntmps9
      go_wp2_with fail
      refine HR.out.mono ?_
      rintro e w1 ⟨rfl, hb⟩
      have B1 := hideR hb
      clear hb HR k1
      go_wp2_with fail
      go_ret2
      exact ⟨T.out _, B1.out⟩
set_option maxHeartbeats 4000000 in
theorem rset_any (ad : Option Addr) (q cap : Nat) (L : Rats) (ck x : Int) (w : World) (hq : L.q = q) (q1 : q ≤ 9223372036854775807) (hV : RatV w ad L) (hI : RatI L) (ic : I64 ck) :
    Calls Tryz.prog 10 #[.slice ad q cap, .int .i64 ck, .int .i64 x] w fun e w' => Tells (setT L ck x).1 (setT L ck x).2 w w' e ∧ Below w.heap.size w w' := by
  have HR := hideR (rright6_any ad cap q L w hq q1 hV hI)
  have HV := hideR hV
  have HQ := hideR hq
  have c1 : -9223372036854775808 ≤ ck := ic.1
  have c2 : ck ≤ 9223372036854775807 := ic.2
  unfold setT
  clear hV hI ic
  cases r : rightL L with
  | false =>
    rw [r] at HR
    rw [if_neg (by decide)]
    have T := hideR (fun W => tells_nil 7 w W)
    go_enter Tryz.func10, Tryz.ntmps10
    go_wp2_with fail
    refine HR.out.mono ?_
    rintro e w1 ⟨rfl, hb⟩
    have B1 := hideR hb
    clear hb HR
    go_wp2_with fail
    go_ret2
    exact ⟨T.out _, B1.out⟩
  | true =>
    rw [r] at HR
    rw [if_pos rfl, hq]
    have q8 : q ≤ 8 := by have := (rightL_at r).1; rw [hq] at this; exact this
    by_cases k1 : 1 ≤ ck
    · by_cases k2 : ck ≤ (q : Int)
      · rw [if_pos ⟨k1, k2⟩]
        by_cases x1 : 0 ≤ x
        · by_cases x2 : x ≤ 1048576
          · rw [if_pos ⟨x1, x2⟩]
            obtain ⟨j, hj⟩ : ∃ j : Nat, ck = (j : Int) + 1 := ⟨(ck - 1).toNat, by omega⟩
            have ej : (ck - 1).toNat = j := by omega
            rw [ej]
            have jq : j < q := by omega
            obtain ⟨b, off, rfl, -, -⟩ := HV.out j (by rw [HQ.out]; exact jq)
            have j0 : (0 : Int) ≤ (j : Int) := by omega
            have j1 : (j : Int) < (q : Int) := by omega
            have HO := hideR (fun W => xof_any x W)
            have ew : ck - 1 = (j : Int) := by omega
            clear ej r hj
            obtain ⟨i0, hi, hz0, hz1, hz2⟩ := info_parts info_rat
            go_enter Tryz.func10, Tryz.ntmps10
            go_wp2_with fail
            refine HR.out.mono ?_
            rintro e w1 ⟨rfl, hb⟩
            have B1 := hideR hb
            clear hb HR
            go_wp2_with (at_builtin; refine wp_app_any _ rfl _ _ 22 rfl w1.heap.size 24 i0 (.agg #[.int .i64 0, .int .i64 0]) 2 16 Tryz.underlying22 hi hz0 hz1 hz2 rfl (by decide) _ 0 [] rfl (World.ownsRow_lit w1 #[] 0 (Nat.le_refl _) (by decide) rfl) (some ⟨b, off, none⟩) q cap (ratC L) rfl (fun e => by cases e) (by rw [ratC_len, HQ.out]) (fun d e j u h => ratC_news (L := L) (d := d) (e ▸ HV.out.later (beyond B1.out (single _ _))) j u h) (ratC_one L) (by unfold maxLen; omega) (by omega) (by simp) ?_; intro v2 w2 hown hgrow)
            have OW : Hid (w2.ownsRow w1.heap.size 24 2 v2 q (ratCk L q)) := by
              have := hown
              rw [Nat.zero_add, List.nil_append, ratC_ck, HQ.out] at this
              exact this
            have B2 : Hid (Below w.heap.size w w2) := by
              rcases hgrow with e | hg
              · rw [e]; exact beyond B1.out (single _ _)
              · exact beyond B1.out ((single w1 _).grown hg (by simp) (fun k hk => own_le hk))
            clear hown hgrow
            have hown := OW.out
            obtain ⟨g, cap2, rfl⟩ : ∃ g cap2, v2 = .slice (some ⟨g, 0, none⟩) q cap2 := by
              rcases hown.2 with ⟨_, h0⟩ | ⟨g, cap2, cur, e, _⟩
              · omega
              · exact ⟨g, cap2, e⟩
            have HB2 := hideR B2.out
            clear hown B2
            refine (HO.out _).mono ?_
            rintro e w3 ⟨rfl, hb⟩
            have O3 : w3.ownsRow w1.heap.size 24 2 (.slice (some ⟨g, 0, none⟩) q cap2) q (ratCk L q) := World.ownsRow.kept OW.out (grown_below hb (Nat.le_refl _)) (by simp [Value.ownBlock])
            obtain ⟨y0, z0⟩ : ∃ y, (ratCk L q)[j * 2]? = some y := ⟨_, List.getElem?_eq_getElem (by simp [ratCk]; omega)⟩
            obtain ⟨y1, z1⟩ : ∃ y, (ratCk L q)[j * 2 + 1]? = some y := ⟨_, List.getElem?_eq_getElem (by simp [ratCk]; omega)⟩
            have d0 := O3.cellAt (j * 2) (by omega)
            have d1 := O3.cellAt (j * 2 + 1) (by omega)
            rw [z0] at d0
            rw [z1] at d1
            have f0 := O3.frozenAt (j * 2)
            have f1 := O3.frozenAt (j * 2 + 1)
            have gl := (O3.lt g rfl).1
            have O4 := HQ.out ▸ O3
            have TT : Hid (Tells (setL L j x) 0 w ((w3.setCell ⟨g, j * 2, none⟩ (.int .i64 x)).setCell ⟨g, j * 2 + 1, none⟩ (.int .i64 1)) (.returned (.tuple #[.slice (some ⟨g, 0, none⟩) q cap2, .int .i64 0]))) := by
              have h := set_own (x := x) (j := j) (L := L) (by rw [HQ.out]; exact jq) (by rw [HQ.out]; exact O3)
              obtain ⟨ad5, cap5, e5, h1, h2, h3⟩ := own_ratV (L := setL L j x) rfl h
              injection e5 with e6 e7 e8
              subst e6 e8
              refine ⟨some ⟨g, 0, none⟩, cap2, ?_, h1, h2, h3.mono B1.out.size⟩
              show Ending.returned _ = Ending.returned _
              rw [show (setL L j x).q = q from HQ.out]
            have BF : Hid (Below w.heap.size w ((w3.setCell ⟨g, j * 2, none⟩ (.int .i64 x)).setCell ⟨g, j * 2 + 1, none⟩ (.int .i64 1))) := ((beyond HB2.out hb).setCell (p := ⟨g, j * 2, none⟩) (Nat.le_trans B1.out.size gl) _).setCell (p := ⟨g, j * 2 + 1, none⟩) (Nat.le_trans B1.out.size gl) _
            clear hb HO O3 O4 OW z0 z1 gl HB2
            go_wp2_with fail
            go_ret2
            exact ⟨TT.out, BF.out⟩
          · rw [if_neg (fun h => x2 h.2)]
            have T := hideR (fun W => tells_nil 13 w W)
            go_enter Tryz.func10, Tryz.ntmps10
            go_wp2_with fail
            refine HR.out.mono ?_
            rintro e w1 ⟨rfl, hb⟩
            have B1 := hideR hb
            clear hb HR
            go_wp2_with fail
            go_ret2
            exact ⟨T.out _, B1.out⟩
        · rw [if_neg (fun h => x1 h.1)]
          have x1' : x < 0 := by omega
          have T := hideR (fun W => tells_nil 13 w W)
          go_enter Tryz.func10, Tryz.ntmps10
          go_wp2_with fail
          refine HR.out.mono ?_
          rintro e w1 ⟨rfl, hb⟩
          have B1 := hideR hb
          clear hb HR x1
          go_wp2_with fail
          go_ret2
          exact ⟨T.out _, B1.out⟩
      · rw [if_neg (fun h => k2 h.2)]
        have k2' : ck > (q : Int) := by omega
        have T := hideR (fun W => tells_nil 12 w W)
        go_enter Tryz.func10, Tryz.ntmps10
        go_wp2_with fail
        refine HR.out.mono ?_
        rintro e w1 ⟨rfl, hb⟩
        have B1 := hideR hb
        clear hb HR k2
        go_wp2_with fail
        go_ret2
        exact ⟨T.out _, B1.out⟩
    · rw [if_neg (fun h => k1 h.1)]
      have k1' : ck < 1 := by omega
      have T := hideR (fun W => tells_nil 12 w W)
      go_enter Tryz.func10, Tryz.ntmps10
      go_wp2_with fail
      refine HR.out.mono ?_
      rintro e w1 ⟨rfl, hb⟩
      have B1 := hideR hb
      clear hb HR k1
      go_wp2_with fail
      go_ret2
      exact ⟨T.out _, B1.out⟩
end Go.Proofs.YtondgencdcimjaaGreat
