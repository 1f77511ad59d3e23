/-
  The document's Holds.
-/
import Derived.Test.YteifpplemohdcaaGreatQ42
import Derived.Deep.CutBlock
namespace Go.Proofs.YteifpplemohdcaaGreat
open Go.RowKit Go.Shelf
set_option linter.unusedVariables false
set_option maxRecDepth 100000
theorem hT_next {L : Rats} {G : Guas} {K : Nat} (h : (hT L G K).2 = 0) (e : gE6 L.q (G.a K) (G.o K) (G.k K) (G.n K) = 0) : hT L G (K + 1) = ((hT L G K).1 && (gT (G.a K) (G.o K) (G.k K) (G.n K)).all (limK L), 0) := by rw [hT, if_pos h, if_pos e]
theorem hT_bad {L : Rats} {G : Guas} {K : Nat} (h : (hT L G K).2 = 0) (e : ¬ gE6 L.q (G.a K) (G.o K) (G.k K) (G.n K) = 0) : hT L G (K + 1) = (false, gE6 L.q (G.a K) (G.o K) (G.k K) (G.n K)) := by rw [hT, if_pos h, if_neg e]
theorem holds_bad {L : Rats} {G : Guas} {K : Nat} (hr : rightL L = true) (h : (hT L G K).2 = 0) (hK : K < G.q) (e : ¬ gE6 L.q (G.a K) (G.o K) (G.k K) (G.n K) = 0) : holdsT6 L G = (false, gE6 L.q (G.a K) (G.o K) (G.k K) (G.n K)) := by
  have b := hT_bad h e
  unfold holdsT6
  rw [if_pos hr, hT_stay (K := K + 1) (by rw [b]; exact e) G.q (by omega), b]
theorem take_all {α : Type} (p : α → Bool) (l : List α) (J : Nat) (t : α) (h : l[J]? = some t) : (l.take (J + 1)).all p = ((l.take J).all p && p t) := by
  rw [List.take_add_one, h]
  simp
theorem tc_at (T : List Tri3) (J : Nat) (t : Tri3) (h : T[J]? = some t) : (tc T)[J * 3]? = some (.int .i64 t.1) ∧ (tc T)[J * 3 + 1]? = some (.int .i64 t.2.1) ∧ (tc T)[J * 3 + 2]? = some (.int .i32 t.2.2) := by
  induction T generalizing J with
  | nil => simp at h
  | cons a T ih =>
    have e : tc (a :: T) = .int .i64 a.1 :: .int .i64 a.2.1 :: .int .i32 a.2.2 :: tc T := rfl
    rw [e]
    cases J with
    | zero =>
      simp at h
      subst h
      exact ⟨rfl, rfl, rfl⟩
    | succ J =>
      have := ih J (by simpa using h)
      rw [show (J + 1) * 3 = J * 3 + 1 + 1 + 1 by omega, show J * 3 + 1 + 1 + 1 + 1 = J * 3 + 1 + 1 + 1 + 1 from rfl]
      exact this
end Go.Proofs.YteifpplemohdcaaGreat

/-
  point.Holds.
-/
namespace Go.Proofs.YteifpplemohdcaaGreat
open Go.RowKit Go.Shelf
set_option linter.unusedVariables false
set_option maxRecDepth 100000
/-- What the closure is asked of. -/
def AskH (w : World) (bx : Nat) (zi zj bb : Int) (kb : Bool) : Prop := ∀ W, Below w.heap.size w W → Calls Tryz.prog 46 #[.agg #[.int .i64 zi, .int .i64 zj, .int .i32 bb], .pointer (some ⟨bx, 0, none⟩)] W fun e W' => e = .returned (.bool (!kb)) ∧ Below W.heap.size W W'
set_option maxHeartbeats 1000000 in
theorem holds1_raw (bx : Nat) (v : Value) (zi zj bb : Int) (kb : Bool) (w : World) (hv : ∃ a n c, v = .slice a n c) (c0 : w.cell? ⟨bx, 0, none⟩ = some v) (H : Hid (∀ W, Below w.heap.size w W → Calls Tryz.prog 47 #[v, .agg #[.int .i64 zi, .int .i64 zj, .int .i32 bb]] W fun e W' => e = .returned (.bool kb) ∧ Below W.heap.size W W')) :
    Calls Tryz.prog 46 #[.agg #[.int .i64 zi, .int .i64 zj, .int .i32 bb], .pointer (some ⟨bx, 0, none⟩)] w fun e W' => e = .returned (.bool (!kb)) ∧ Below w.heap.size w W' := by
  obtain ⟨a, n, c, rfl⟩ := hv
  have B0 := hideR (single w (.cells #[.int .i64 zi, .int .i64 zj, .int .i32 bb] 95))
  have H1 := hideR (H.out _ B0.out)
  have c0 := kc _ _ B0.out c0
  clear H
  go_enter Tryz.func46, Tryz.ntmps46
  go_wp2_with fail
  refine H1.out.mono ?_
  rintro e w1 ⟨rfl, hb⟩
  have B1 := hideR (beyond B0.out hb)
  clear hb H1 B0
  go_wp2_with fail
  go_ret
  exact ⟨rfl, B1.out⟩
set_option maxHeartbeats 2000000 in
theorem indexH_any (g lq lcap bx : Nat) (L : Rats) (T : List Tri3) (A : Bool) (w : World) (hA : T.all (limK L) = A) (hl : lq = T.length) (l2 : lq ≤ 2) (hT : ∀ j u, (tc T)[j]? = some u → w.cell? ⟨g, j, none⟩ = some u) (H : ∀ t ∈ T, AskH w bx t.1 t.2.1 t.2.2 (limK L t)) :
    Calls Tryz.prog 115 #[.slice (some ⟨g, 0, none⟩) lq lcap, .func (.func 46) #[] #[.pointer (some ⟨bx, 0, none⟩)]] w fun e w' => (∃ z : Int, e = .returned (.int .i64 z) ∧ ((A = true ∧ z = -1) ∨ (A = false ∧ 0 ≤ z))) ∧ Below w.heap.size w w' := by
  have HAl := hideR hA
  clear hA
  have HT := hideR hT
  have HH := hideR H
  have HL := hideR hl
  clear hT H hl
  go_enter Tryz.func115, Tryz.ntmps115
  go_wp2_with fail
  go_loopw [8] (fun s wr => ∃ (K : Nat), K ≤ lq ∧ s = .int .i64 (K : Int) ∧ Hid ((T.take K).all (limK L) = true) ∧ Hid (Below w.heap.size w wr)) (fun s _ => lq - (intOf s).toNat)
  case atStart => exact ⟨0, by omega, rfl, rfl, Below.refl _ _⟩
  case round =>
    obtain ⟨K, hK, rfl, O, B⟩ := hrel
    by_cases ck : K < lq
    · obtain ⟨t, ht⟩ : ∃ t, T[K]? = some t := ⟨_, List.getElem?_eq_getElem (by rw [← HL.out]; exact ck)⟩
      obtain ⟨d0, d1, d2⟩ := tc_at T K t ht
      have d0 := kc _ _ B.out (HT.out _ _ d0)
      have d1 := kc _ _ B.out (HT.out _ _ d1)
      have d2 := kc _ _ B.out (HT.out _ _ d2)
      have tm := List.mem_of_getElem? ht
      have HR := hideR (HH.out t tm wr B.out)
      have ON : Hid ((T.take (K + 1)).all (limK L) = limK L t) := by show _ = _; rw [take_all (limK L) T K t ht, O.out, Bool.true_and]
      have AF : Hid (limK L t = false → A = false) := fun h => by
        rw [← HAl.out, List.all_eq_false]
        exact ⟨t, tm, by rw [h]; decide⟩
      have k0 : (K : Int) < (lq : Int) := by omega
      have k1 : (0 : Int) ≤ (K : Int) := by omega
      clear ht tm
      generalize limK L t = kb at *
      generalize t.1 = zi at *
      generalize t.2.1 = zj at *
      generalize t.2.2 = bb at *
      cases kb with
      | true =>
        clear AF
        go_wp2_with fail
        refine HR.out.mono ?_
        rintro e w1 ⟨rfl, hb⟩
        have B1 := hideR (beyond B.out hb)
        clear hb B HR d0 d1 d2
        go_wp2_with fail
        go_roundw
        case rel => exact ⟨K + 1, by omega, by go_num, ON, B1⟩
        case measure => simp [intOf]; omega
      | false =>
        have F := hideR (AF.out rfl)
        clear AF
        go_wp2_with fail
        refine HR.out.mono ?_
        rintro e w1 ⟨rfl, hb⟩
        have B1 := hideR (beyond B.out hb)
        clear hb B HR d0 d1 d2
        go_wp2_with fail
        go_ret
        exact ⟨⟨_, rfl, .inr ⟨F.out, by omega⟩⟩, B1.out⟩
    · have eK : K = lq := by omega
      have F : Hid (A = true) := by
        have := O.out
        rw [eK, HL.out, List.take_length] at this
        rw [← HAl.out]
        exact this
      have k0 : ¬ (K : Int) < (lq : Int) := by omega
      clear eK O
      go_wp2_with fail
      go_ret
      exact ⟨⟨_, rfl, .inl ⟨F.out, rfl⟩⟩, B.out⟩
theorem containsH_any (g lq lcap bx : Nat) (L : Rats) (T : List Tri3) (w : World) (hl : lq = T.length) (l2 : lq ≤ 2) (hT : ∀ j u, (tc T)[j]? = some u → w.cell? ⟨g, j, none⟩ = some u) (H : ∀ t ∈ T, AskH w bx t.1 t.2.1 t.2.2 (limK L t)) :
    Calls Tryz.prog 45 #[.slice (some ⟨g, 0, none⟩) lq lcap, .func (.func 46) #[] #[.pointer (some ⟨bx, 0, none⟩)]] w fun e w' => e = .returned (.bool (!T.all (limK L))) ∧ Below w.heap.size w w' := by
  have H1 := hideR (indexH_any g lq lcap bx L T _ w rfl hl l2 hT H)
  clear hT H hl
  go_enter Tryz.func45, Tryz.ntmps45
  go_wp2_with fail
  refine H1.out.mono ?_
  rintro e w1 ⟨⟨z, rfl, h⟩, hb⟩
  have HB := hideR hb
  have HZ : Hid (decide (0 ≤ z) = !T.all (limK L)) := by
    show _ = _
    rcases h with ⟨h1, rfl⟩ | ⟨h1, h2⟩
    · rw [h1]; rfl
    · rw [h1]; simpa using h2
  clear h hb H1
  go_wp2_with fail
  go_ret
  exact ⟨by rw [HZ.out]; rfl, HB.out⟩
set_option maxHeartbeats 4000000 in
theorem pholds_any (ad adg : Option Addr) (q cap gq gcap : Nat) (L : Rats) (G : Guas) (w : World) (hq : L.q = q) (q1 : q ≤ 9223372036854775807) (hnil : ad = none → q = 0 ∧ cap = 0) (hV : RatV w ad L) (hI : RatI L) (hg : G.q = gq) (g1 : gq ≤ 4611686018427387904) (hG : GuaV w adg G) (hk : ∀ k, k < G.q → 0 ≤ G.k k ∧ G.k k < 256) :
    Calls Tryz.prog 12 #[.slice ad q cap, .slice adg gq gcap] w fun e w' => e = .returned (.tuple #[.bool (holdsT6 L G).1, .int .i64 (holdsT6 L G).2]) ∧ Below w.heap.size w w' := by
  have HR := hideR (pright_any ad cap q L w hq q1 hV hI)
  cases r : rightL L with
  | false =>
    rw [r] at HR
    have E : Hid (holdsT6 L G = (false, 7)) := by show _ = _; unfold holdsT6; rw [r]; rfl
    clear hV hI hG hk hnil
    go_enter Tryz.func12, Tryz.ntmps12
    go_wp2_with fail
    refine HR.out.mono ?_
    rintro e w1 ⟨rfl, hb⟩
    have B1 := hideR hb
    clear hb HR
    go_wp2_with fail
    go_ret2
    exact ⟨by rw [E.out]; rfl, B1.out⟩
  | true =>
    rw [r] at HR
    have q8 : q ≤ 8 := by have := (rightL_at r).1; rw [hq] at this; exact this
    have q9 : (q : Int) ≤ 8 := by omega
    have HA := hideR (fun i (hi : i ≤ q) => ahead_ok r hI i (by rw [hq]; exact hi))
    have HN := hideR (fun W (hb : Below w.heap.size w W) => byNumber_any ad cap q L W hq q8 hnil (hV.later hb))
    have HG := hideR hG
    have HK := hideR hk
    have HQ := hideR hq
    have HGq := hideR hg
    have Hr := hideR r
    clear hV hI hG hk hq hg r hnil
    go_enter Tryz.func12, Tryz.ntmps12
    go_wp2_with fail
    refine HR.out.mono ?_
    rintro e w1 ⟨rfl, hb⟩
    have B1 := hideR hb
    have HN1 := hideR (HN.out w1 hb)
    clear hb HR HN
    go_wp2_with fail
    refine HN1.out.mono ?_
    rintro e w2 ⟨⟨ga, capa, rfl, -, hrow⟩, hb⟩
    have B2 := hideR (beyond B1.out hb)
    have Bs := single w2 (.cells #[.slice (some ⟨ga, 0, none⟩) (q + 1) capa] 22)
    have B3 := hideR (beyond B2.out Bs)
    have RW := hideR (hrow.past Bs)
    have bx0 : (w2.alloc (.cells #[.slice (some ⟨ga, 0, none⟩) (q + 1) capa] 22)).cell? ⟨w2.heap.size, 0, none⟩ = some (.slice (some ⟨ga, 0, none⟩) (q + 1) capa) := by simp [go_sem]
    have BX := hideR bx0
    clear hb HN1 hrow Bs bx0 B2
    go_wp2_with fail
    generalize w2.alloc (.cells #[.slice (some ⟨ga, 0, none⟩) (q + 1) capa] 22) = W3 at *
    generalize w2.heap.size = bx at *
    go_loopw [7, 19] (fun s i wr => ∃ (K : Nat), K ≤ gq ∧ s = .bool (hT L G K).1 ∧ i = .int .i64 (K : Int) ∧ Hid ((hT L G K).2 = 0) ∧ Hid (Below W3.heap.size W3 wr)) (fun _ i _ => gq - (intOf i).toNat)
    case atStart => exact ⟨0, Nat.zero_le _, rfl, rfl, rfl, Below.refl _ _⟩
    case round =>
      obtain ⟨K, hK, rfl, rfl, E, B⟩ := hrel
      by_cases ck : K < gq
      · obtain ⟨b, off, rfl, c0, c1, c2, c3⟩ := (HG.out.past (beyond B3.out B.out)) K (by rw [HGq.out]; exact ck)
        have k0 : (K : Int) < (gq : Int) := by omega
        have k1 : (0 : Int) ≤ (K : Int) := by omega
        obtain ⟨kk0, kk1⟩ := HK.out K (by rw [HGq.out]; exact ck)
        have HL := hideR (fun W => plim_any (G.a K) (G.o K) (G.k K) (G.n K) W kk0 kk1)
        have NX : Hid (gE6 L.q (G.a K) (G.o K) (G.k K) (G.n K) = 0 → hT L G (K + 1) = ((hT L G K).1 && (gT (G.a K) (G.o K) (G.k K) (G.n K)).all (limK L), 0)) := fun e => hT_next E.out e
        have BD : Hid (∀ c, ¬ c = 0 → gE6 L.q (G.a K) (G.o K) (G.k K) (G.n K) = c → holdsT6 L G = (false, c)) := fun c hc e => by
          have := holds_bad Hr.out E.out (by rw [HGq.out]; exact ck) (by rw [e]; exact hc)
          rw [e] at this
          exact this
        clear kk0 kk1
        rw [HQ.out] at NX BD
        generalize G.a K = x at *
        generalize G.o K = o at *
        generalize G.k K = k at *
        generalize G.n K = n at *
        generalize (hT L G K).1 = al at *
        have Bg := hideR (single wr (.cells #[.int .i64 x, .int .i64 o, .int .u8 k, .int .i64 n] 88))
        go_wp2_with fail
        refine (HL.out _).mono ?_
        rintro e w4 ⟨hlim, hb⟩
        have d0 := kc ⟨wr.heap.size, 0, none⟩ (.int .i64 x) hb (by simp [go_sem])
        have d1 := kc ⟨wr.heap.size, 1, none⟩ (.int .i64 o) hb (by simp [go_sem])
        have B4 := hideR (beyond (beyond B.out Bg.out) hb)
        have BF := hideR (beyond B3.out B4.out)
        clear hb HL c0 c1 c2 c3 Bg
        generalize wr.heap.size = gb at d0 d1 ⊢
        rcases hlim with ⟨ge, rfl⟩ | ⟨ge, g, lq, lcap, rfl, hg0, hg1, hlq, hcell⟩
        · have e0 : ¬ gE x o k n = 0 := by simpa using ge
          have F := hideR (BD.out (gE x o k n) e0 (by unfold gE6; rw [if_neg e0]))
          clear NX BD e0
          generalize gE x o k n = ec at *
          go_wp2_with fail
          go_ret2
          exact ⟨by rw [F.out]; rfl, BF.out⟩
        · by_cases x1 : (q : Int) < x ∨ (q : Int) < o
          · have F := hideR (BD.out 12 (by decide) (by unfold gE6; rw [if_pos ge, if_pos x1]))
            have mx : max x o > (q : Int) := by omega
            clear NX BD hcell x1
            go_wp2_with fail
            go_ret2
            exact ⟨by rw [F.out]; rfl, BF.out⟩
          · have mx : ¬ max x o > (q : Int) := by omega
            have e6 : gE6 q x o k n = 0 := by unfold gE6; rw [if_pos ge, if_neg x1]
            have NX := hideR (NX.out e6)
            obtain ⟨⟨gx0, gx1, go0, go1⟩, -, -⟩ := gE_in ge
            have l2 : lq ≤ 2 := by
              rw [hlq]
              unfold gT
              split
              · simp
              · split
                · simp
                · split
                  · simp
                  · split <;> simp
            have HH : ∀ t ∈ gT x o k n, AskH w4 bx t.1 t.2.1 t.2.2 (limK L t) := fun t ht W hb => by
              obtain ⟨ti, tf⟩ := gT_in ge t ht
              have in0 : 0 ≤ t.1 ∧ t.1 ≤ (q : Int) ∧ 0 ≤ t.2.1 ∧ t.2.1 ≤ (q : Int) := by
                rcases ti with ⟨e1, e2⟩ | ⟨e1, e2⟩ <;> rw [e1, e2] <;> omega
              obtain ⟨a1, a2, a3⟩ := HA.out t.1.toNat (by omega)
              obtain ⟨b1, b2, b3⟩ := HA.out t.2.1.toNat (by omega)
              have BW := beyond B4.out hb
              refine holds1_raw bx _ t.1 t.2.1 t.2.2 (limK L t) W ⟨_, _, _, rfl⟩ (kc _ _ BW BX.out) (fun W' hb' => ?_)
              have R5 := (RW.out.past BW).past hb'
              have r1 := R5 t.1.toNat (by show _ < L.q + 1; rw [HQ.out]; omega)
              have r2 := R5 t.2.1.toNat (by show _ < L.q + 1; rw [HQ.out]; omega)
              have := keepsP_any ga 0 (q + 1) capa t.1.toNat t.2.1.toNat _ _ _ _ t.2.2 W' r1.1 r1.2 r2.1 r2.2 (by omega) (by omega) a1 a2 b1 b2 a3 b3
              rw [show ((t.1.toNat : Nat) : Int) = t.1 by omega, show ((t.2.1.toNat : Nat) : Int) = t.2.1 by omega] at this
              exact this
            have HCt := hideR (containsH_any g lq lcap bx L (gT x o k n) w4 hlq l2 hcell HH)
            have n2 : Hid ((hT L G (K + 1)).2 = 0) := by show _ = _; rw [NX.out]
            have n1 : Hid ((hT L G (K + 1)).1 = (al && (gT x o k n).all (limK L))) := by show _ = _; rw [NX.out]
            clear BD e6 ge gx0 gx1 go0 go1 hlq hcell HH NX x1 l2
            generalize (gT x o k n).all (limK L) = ta at *
            cases al with
            | false =>
              clear HCt
              go_wp2_with fail
              go_roundw
              case rel => exact ⟨K + 1, by omega, by rw [n1.out]; rfl, by go_num, n2, B4⟩
              case measure => simp [intOf]; omega
            | true =>
              go_wp2_with fail
              refine HCt.out.mono ?_
              rintro e w5 ⟨rfl, hb⟩
              have B5 := hideR (beyond B4.out hb)
              clear hb HCt
              go_wp2_with fail
              go_roundw
              case rel => exact ⟨K + 1, by omega, by rw [n1.out]; simp, by go_num, n2, B5⟩
              case measure => simp [intOf]; omega
      · have eK : K = gq := by omega
        have k0 : ¬ (K : Int) < (gq : Int) := by omega
        have F2 : Hid (holdsT6 L G = ((hT L G K).1, 0)) := by
          show _ = _
          have e1 : holdsT6 L G = hT L G K := by unfold holdsT6; rw [if_pos Hr.out, HGq.out, eK]
          rw [e1]
          have := E.out
          generalize hT L G K = p at *
          obtain ⟨p1, p2⟩ := p
          simp at this
          rw [this]
        have BF := hideR (beyond B3.out B.out)
        clear eK
        generalize (hT L G K).1 = al at *
        go_wp2_with fail
        go_ret2
        exact ⟨by rw [F2.out]; rfl, BF.out⟩
end Go.Proofs.YteifpplemohdcaaGreat
