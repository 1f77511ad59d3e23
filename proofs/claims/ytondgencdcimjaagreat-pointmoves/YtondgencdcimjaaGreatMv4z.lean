/-
  The document's Holds.
-/
import Derived.Test.YtondgencdcimjaaGreatZn
import Derived.Deep.CutBlock
namespace Go.Proofs.YtondgencdcimjaaGreat
open Go.RowKit Go.Shelf
set_option linter.unusedVariables false
set_option maxRecDepth 100000
theorem hT_next {L : Rats} {G : Guas} {K : Nat} (h : (hT L G K).2 = 0) (e : gE6 L.q (G.a K) (G.o K) (G.k K) (G.n K) = 0) : hT L G (K + 1) = ((hT L G K).1 && (gT (G.a K) (G.o K) (G.k K) (G.n K)).all (limK L), 0) := by rw [hT, if_pos h, if_pos e]
theorem hT_bad {L : Rats} {G : Guas} {K : Nat} (h : (hT L G K).2 = 0) (e : ¬ gE6 L.q (G.a K) (G.o K) (G.k K) (G.n K) = 0) : hT L G (K + 1) = (false, gE6 L.q (G.a K) (G.o K) (G.k K) (G.n K)) := by rw [hT, if_pos h, if_neg e]
theorem holds_bad {L : Rats} {G : Guas} {K : Nat} (hr : rightL L = true) (h : (hT L G K).2 = 0) (hK : K < G.q) (e : ¬ gE6 L.q (G.a K) (G.o K) (G.k K) (G.n K) = 0) : holdsT6 L G = (false, gE6 L.q (G.a K) (G.o K) (G.k K) (G.n K)) := by
  have b := hT_bad h e
  unfold holdsT6
  rw [if_pos hr, hT_stay (K := K + 1) (by rw [b]; exact e) G.q (by omega), b]
theorem take_all {α : Type} (p : α → Bool) (l : List α) (J : Nat) (t : α) (h : l[J]? = some t) : (l.take (J + 1)).all p = ((l.take J).all p && p t) := by
  rw [List.take_add_one, h]
  simp
theorem tc_at (T : List Tri3) (J : Nat) (t : Tri3) (h : T[J]? = some t) : (tc T)[J * 3]? = some (.int .i64 t.1) ∧ (tc T)[J * 3 + 1]? = some (.int .i64 t.2.1) ∧ (tc T)[J * 3 + 2]? = some (.int .i32 t.2.2) := by
  induction T generalizing J with
  | nil => simp at h
  | cons a T ih =>
    have e : tc (a :: T) = .int .i64 a.1 :: .int .i64 a.2.1 :: .int .i32 a.2.2 :: tc T := rfl
    rw [e]
    cases J with
    | zero =>
      simp at h
      subst h
      exact ⟨rfl, rfl, rfl⟩
    | succ J =>
      have := ih J (by simpa using h)
      rw [show (J + 1) * 3 = J * 3 + 1 + 1 + 1 by omega, show J * 3 + 1 + 1 + 1 + 1 = J * 3 + 1 + 1 + 1 + 1 from rfl]
      exact this
set_option maxHeartbeats 4000000 in
theorem rholds_any (ad adg : Option Addr) (q cap gq gcap : Nat) (L : Rats) (G : Guas) (w : World) (hq : L.q = q) (q1 : q ≤ 9223372036854775807) (hV : RatV w ad L) (hI : RatI L) (hg : G.q = gq) (g1 : gq ≤ 4611686018427387904) (hG : GuaV w adg G) (hk : ∀ k, k < G.q → 0 ≤ G.k k ∧ G.k k < 256) :
    Calls Tryz.prog 13 #[.slice ad q cap, .slice adg gq gcap] w fun e w' => e = .returned (.tuple #[.bool (holdsT6 L G).1, .int .i64 (holdsT6 L G).2]) ∧ Below w.heap.size w w' := by
  have HR := hideR (rright6_any ad cap q L w hq q1 hV hI)
  cases r : rightL L with
  | false =>
    rw [r] at HR
    have E : Hid (holdsT6 L G = (false, 7)) := by show _ = _; unfold holdsT6; rw [r]; rfl
    clear hV hI hG hk
    go_enter Tryz.func13, Tryz.ntmps13
    go_wp2_with fail
    refine HR.out.mono ?_
    rintro e w1 ⟨rfl, hb⟩
    have B1 := hideR hb
    clear hb HR
    go_wp2_with fail
    go_ret2
    exact ⟨by rw [E.out]; rfl, B1.out⟩
  | true =>
    rw [r] at HR
    have q8 : q ≤ 8 := by have := (rightL_at r).1; rw [hq] at this; exact this
    have HC := hideR (fun (i : Nat) (hi : i ≤ q) W (hb : Below w.heap.size w W) => rclock_any ad q cap L i W hq q8 (hV.later hb) hi)
    have HA := hideR (fun i (hi : i ≤ q) => ahead_ok r hI i (by rw [hq]; exact hi))
    have HG := hideR hG
    have HK := hideR hk
    have HQ := hideR hq
    have HGq := hideR hg
    have Hr := hideR r
    clear hV hI hG hk hq hg r
    go_enter Tryz.func13, Tryz.ntmps13
    go_wp2_with fail
    refine HR.out.mono ?_
    rintro e w1 ⟨rfl, hb⟩
    have B1 := hideR hb
    clear hb HR
    go_wp2_with fail
    go_loopw [6, 7] (fun s i wr => ∃ (K : Nat), K ≤ gq ∧ s = .bool (hT L G K).1 ∧ i = .int .i64 (K : Int) ∧ Hid ((hT L G K).2 = 0) ∧ Hid (Below w.heap.size w wr)) (fun _ i _ => gq - (intOf i).toNat)
    case atStart => exact ⟨0, Nat.zero_le _, rfl, rfl, rfl, B1⟩
    case round =>
      obtain ⟨K, hK, rfl, rfl, E, B⟩ := hrel
      by_cases ck : K < gq
      · obtain ⟨b, off, rfl, c0, c1, c2, c3⟩ := (HG.out.past B.out) K (by rw [HGq.out]; exact ck)
        have k0 : (K : Int) < (gq : Int) := by omega
        have k1 : (0 : Int) ≤ (K : Int) := by omega
        obtain ⟨kk0, kk1⟩ := HK.out K (by rw [HGq.out]; exact ck)
        have HL := hideR (fun W => rlim_any (G.a K) (G.o K) (G.k K) (G.n K) W kk0 kk1)
        have NX : Hid (gE6 L.q (G.a K) (G.o K) (G.k K) (G.n K) = 0 → hT L G (K + 1) = ((hT L G K).1 && (gT (G.a K) (G.o K) (G.k K) (G.n K)).all (limK L), 0)) := fun e => hT_next E.out e
        have BD : Hid (∀ c, ¬ c = 0 → gE6 L.q (G.a K) (G.o K) (G.k K) (G.n K) = c → holdsT6 L G = (false, c)) := fun c hc e => by
          have := holds_bad Hr.out E.out (by rw [HGq.out]; exact ck) (by rw [e]; exact hc)
          rw [e] at this
          exact this
        clear kk0 kk1
        rw [HQ.out] at NX BD
        generalize G.a K = x at *
        generalize G.o K = o at *
        generalize G.k K = k at *
        generalize G.n K = n at *
        generalize (hT L G K).1 = al at *
        go_wp2_with fail
        refine (HL.out _).mono ?_
        rintro e w2 ⟨hlim, hb⟩
        have c0 := kc _ _ hb c0
        have c1 := kc _ _ hb c1
        have B2 := hideR (beyond B.out hb)
        clear hb HL c2 c3
        rcases hlim with ⟨ge, rfl⟩ | ⟨ge, g, lq, lcap, rfl, hg0, hg1, hlq, hcell⟩
        · have e0 : ¬ gE x o k n = 0 := by simpa using ge
          have F := hideR (BD.out (gE x o k n) e0 (by unfold gE6; rw [if_neg e0]))
          clear NX BD e0
          generalize gE x o k n = ec at *
          go_wp2_with fail
          go_ret2
          exact ⟨by rw [F.out]; rfl, B2.out⟩
        · by_cases x1 : x > (q : Int)
          · have F := hideR (BD.out 12 (by decide) (by unfold gE6; rw [if_pos ge, if_pos (.inl x1)]))
            clear NX BD hcell
            go_wp2_with fail
            go_ret2
            exact ⟨by rw [F.out]; rfl, B2.out⟩
          · by_cases o1 : o > (q : Int)
            · have F := hideR (BD.out 12 (by decide) (by unfold gE6; rw [if_pos ge, if_pos (.inr o1)]))
              clear NX BD hcell
              go_wp2_with fail
              go_ret2
              exact ⟨by rw [F.out]; rfl, B2.out⟩
            · have e6 : gE6 q x o k n = 0 := by unfold gE6; rw [if_pos ge, if_neg (by omega)]
              have NX := hideR (NX.out e6)
              have TI := hideR (gT_in ge)
              obtain ⟨⟨gx0, gx1, go0, go1⟩, -, -⟩ := gE_in ge
              have XO : Hid (0 ≤ x ∧ x ≤ (q : Int) ∧ 0 ≤ o ∧ o ≤ (q : Int)) := ⟨gx0, by omega, go0, by omega⟩
              have HL := hideR hlq
              have HT := hideR hcell
              have l2 : lq ≤ 2 := by
                rw [hlq]
                unfold gT
                split
                · simp
                · split
                  · simp
                  · split
                    · simp
                    · split <;> simp
              clear BD e6 ge gx0 gx1 go0 go1 hlq hcell
              generalize gT x o k n = T at *
              obtain ⟨wb, hwb⟩ : ∃ wb, wb = w2 := ⟨_, rfl⟩
              go_wp2_with fail
              rw [← hwb] at HT B2 c0 c1 ⊢
              clear hwb
              go_loopw [6, 10] (fun s j wq => ∃ (J : Nat), J ≤ lq ∧ s = .bool (al && (T.take J).all (limK L)) ∧ j = .int .i64 (J : Int) ∧ Hid (Below wb.heap.size wb wq)) (fun _ j _ => lq - (intOf j).toNat)
              case atStart => exact ⟨0, Nat.zero_le _, by simp, rfl, Below.refl _ _⟩
              case round =>
                obtain ⟨J, hJ, rfl, rfl, B3⟩ := hrel
                by_cases cj : J < lq
                · obtain ⟨t, ht⟩ : ∃ t, T[J]? = some t := ⟨_, List.getElem?_eq_getElem (by rw [← HL.out]; exact cj)⟩
                  obtain ⟨d0, d1, d2⟩ := tc_at T J t ht
                  have d0 := kc _ _ B3.out (HT.out _ _ d0)
                  have d1 := kc _ _ B3.out (HT.out _ _ d1)
                  have d2 := kc _ _ B3.out (HT.out _ _ d2)
                  have tk := take_all (limK L) T J t ht
                  have j0 : (J : Int) < (lq : Int) := by omega
                  have j1 : (0 : Int) ≤ (J : Int) := by omega
                  obtain ⟨ti, tf⟩ := TI.out t (List.mem_of_getElem? ht)
                  have in0 : 0 ≤ t.1 ∧ t.1 ≤ (q : Int) ∧ 0 ≤ t.2.1 ∧ t.2.1 ≤ (q : Int) := by
                    have := XO.out
                    rcases ti with ⟨e1, e2⟩ | ⟨e1, e2⟩ <;> rw [e1, e2] <;> omega
                  have B4 := hideR (beyond B2.out B3.out)
                  have H1 := hideR (fun W (hb : Below wr.heap.size wr W) => HC.out t.1.toNat (by omega) W (beyond B4.out hb))
                  have H2 := hideR (fun W (hb : Below wr.heap.size wr W) => HC.out t.2.1.toNat (by omega) W (beyond B4.out hb))
                  rw [show ((t.1.toNat : Nat) : Int) = t.1 by omega] at H1
                  rw [show ((t.2.1.toNat : Nat) : Int) = t.2.1 by omega] at H2
                  obtain ⟨a1, a2, a3⟩ := HA.out t.1.toNat (by omega)
                  obtain ⟨b1, b2, b3⟩ := HA.out t.2.1.toNat (by omega)
                  have H3 := hideR (fun W => rkeeps_any _ _ _ _ t.2.2 W a1 a2 b1 b2 a3 b3 tf)
                  have ek : Hid (limK L t = keepB t.2.2 ((aheadL L).n t.1.toNat) ((aheadL L).d t.1.toNat) ((aheadL L).n t.2.1.toNat) ((aheadL L).d t.2.1.toNat)) := rfl
                  generalize keepB t.2.2 ((aheadL L).n t.1.toNat) ((aheadL L).d t.1.toNat) ((aheadL L).n t.2.1.toNat) ((aheadL L).d t.2.1.toNat) = kb at H3 ek
                  rw [ek.out] at tk
                  have NXT : Hid ((al && (T.take (J + 1)).all (limK L)) = ((al && (T.take J).all (limK L)) && kb)) := by show _ = _; rw [tk, Bool.and_assoc]
                  clear a1 a2 a3 b1 b2 b3 ti tf in0 ek tk ht
                  generalize (aheadL L).n t.1.toNat = p1 at *
                  generalize (aheadL L).d t.1.toNat = p2 at *
                  generalize (aheadL L).n t.2.1.toNat = r1 at *
                  generalize (aheadL L).d t.2.1.toNat = r2 at *
                  generalize t.1 = zi at *
                  generalize t.2.1 = zj at *
                  generalize t.2.2 = bb at *
                  cases sb : (al && (T.take J).all (limK L)) with
                  | false =>
                    rw [sb, Bool.false_and] at NXT
                    clear sb H1 H2 H3
                    go_wp2_with fail
                    go_quiet (fail)
                    go_wp2_with fail
                    go_roundw
                    case rel => exact ⟨J + 1, by omega, by rw [NXT.out], by go_num, hideR (beyond B3.out (below_draw _ _))⟩
                    case measure => simp [intOf]; omega
                  | true =>
                    rw [sb, Bool.true_and] at NXT
                    clear sb
                    have BB := Below.refl wr.heap.size wr
                    have BD : Below wr.heap.size wr wr.drew := (Below.refl _ _).drew
                    have x0 : wr.drew.cell? ⟨g, J * 3, none⟩ = some (.int .i64 zi) := d0
                    have x1' : wr.drew.cell? ⟨g, J * 3 + 1, none⟩ = some (.int .i64 zj) := d1
                    have x2 : wr.drew.cell? ⟨g, J * 3 + 2, none⟩ = some (.int .i32 bb) := d2
                    go_upto_block 3 with (fail)
                    go_cut [6] (fun s w' => s = .bool kb ∧ Below wr.heap.size wr w')
                    case first =>
                      go_wp2_with fail
                      go_region_held3 (fun w' => Below wr.heap.size wr w' ∧ w'.cell? ⟨g, J * 3, none⟩ = some (.int .i64 zi) ∧ w'.cell? ⟨g, J * 3 + 1, none⟩ = some (.int .i64 zj) ∧ w'.cell? ⟨g, J * 3 + 2, none⟩ = some (.int .i32 bb))
                        (first | exact ⟨by first | with_reducible assumption | (apply Below.drew; assumption), by with_reducible assumption, by with_reducible assumption, by with_reducible assumption⟩ | go_keep)
                        (first
                          | (go_at_call 50; first | (with_reducible refine (H1.out _ (by first | with_reducible assumption | (apply Below.drew; assumption))).mono ?_; rintro e w' ⟨rfl, hb⟩; have s0 := kc ⟨g, J * 3, none⟩ (.int .i64 zi) hb (by first | with_reducible assumption | assumption | simp [go_sem, *]); have s1 := kc ⟨g, J * 3 + 1, none⟩ (.int .i64 zj) hb (by first | with_reducible assumption | assumption | simp [go_sem, *]); have s2 := kc ⟨g, J * 3 + 2, none⟩ (.int .i32 bb) hb (by first | with_reducible assumption | assumption | simp [go_sem, *]); have s4 := beyond (w := wr) (by first | with_reducible assumption | (apply Below.drew; assumption)) hb) | (with_reducible refine (H2.out _ (by first | with_reducible assumption | (apply Below.drew; assumption))).mono ?_; rintro e w' ⟨rfl, hb⟩; have s0 := kc ⟨g, J * 3, none⟩ (.int .i64 zi) hb (by first | with_reducible assumption | assumption | simp [go_sem, *]); have s1 := kc ⟨g, J * 3 + 1, none⟩ (.int .i64 zj) hb (by first | with_reducible assumption | assumption | simp [go_sem, *]); have s2 := kc ⟨g, J * 3 + 2, none⟩ (.int .i32 bb) hb (by first | with_reducible assumption | assumption | simp [go_sem, *]); have s4 := beyond (w := wr) (by first | with_reducible assumption | (apply Below.drew; assumption)) hb))
                          | (go_at_call 49; refine (H3.out _).mono ?_; rintro e w' ⟨rfl, hb⟩; have s0 := kc ⟨g, J * 3, none⟩ (.int .i64 zi) hb (by first | with_reducible assumption | assumption | simp [go_sem, *]); have s1 := kc ⟨g, J * 3 + 1, none⟩ (.int .i64 zj) hb (by first | with_reducible assumption | assumption | simp [go_sem, *]); have s2 := kc ⟨g, J * 3 + 2, none⟩ (.int .i32 bb) hb (by first | with_reducible assumption | assumption | simp [go_sem, *]); have s4 := beyond (w := wr) (by first | with_reducible assumption | (apply Below.drew; assumption)) hb))
                      all_goals go_wp2_with fail
                      all_goals go_meet
                      all_goals exact ⟨rfl, (by first | with_reducible assumption | (apply Below.drew; assumption))⟩
                    case rest =>
                      obtain ⟨rfl, hbb⟩ := hcut
                      have B5 := hideR (beyond B3.out hbb)
                      clear hbb x0 x1' x2 BB BD H1 H2 H3
                      go_wp2_with fail
                      go_roundw
                      case rel => exact ⟨J + 1, by omega, by rw [NXT.out], by go_num, B5⟩
                      case measure => simp [intOf]; omega
                · have ej : J = lq := by omega
                  have j0 : ¬ (J : Int) < (lq : Int) := by omega
                  have tt : (T.take J).all (limK L) = T.all (limK L) := by rw [ej, HL.out, List.take_length]
                  rw [tt]
                  have B5 := hideR (beyond B2.out B3.out)
                  have n2 : Hid ((hT L G (K + 1)).2 = 0) := by show _ = _; rw [NX.out]
                  have n1 : Hid ((hT L G (K + 1)).1 = (al && T.all (limK L))) := by show _ = _; rw [NX.out]
                  clear tt ej NX
                  generalize (al && T.all (limK L)) = aa at *
                  go_wp2_with fail
                  go_roundw
                  case rel => exact ⟨K + 1, by omega, by rw [n1.out], by go_num, n2, B5⟩
                  case measure => simp [intOf]; omega
      · have eK : K = gq := by omega
        have k0 : ¬ (K : Int) < (gq : Int) := by omega
        have F : Hid (holdsT6 L G = hT L G K) := by show _ = _; unfold holdsT6; rw [if_pos Hr.out, HGq.out, eK]
        have F2 : Hid (holdsT6 L G = ((hT L G K).1, 0)) := by
          show _ = _
          rw [F.out]
          have := E.out
          generalize hT L G K = p at *
          obtain ⟨p1, p2⟩ := p
          simp at this
          rw [this]
        clear F eK
        generalize (hT L G K).1 = al at *
        go_wp2_with fail
        go_ret2
        exact ⟨by rw [F2.out]; rfl, B.out⟩
end Go.Proofs.YtondgencdcimjaaGreat
