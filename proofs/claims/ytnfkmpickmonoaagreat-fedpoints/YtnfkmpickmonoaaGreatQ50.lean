/-
  fed: towards FedPoints.
-/
import Derived.Test.YtnfkmpickmonoaaGreatQ49
import Derived.Test.YtnfkmpickmonoaaGreatQ35
import Derived.Test.YtnfkmpickmonoaaGreatQ31
namespace Go.Proofs.YtnfkmpickmonoaaGreat
open Go.RowKit Go.Shelf
set_option linter.unusedVariables false
set_option maxRecDepth 100000
attribute [local go_sem] Oper.semAt_some
theorem news7c {H : Nat} {n : Int} {W : World} {es : List E3} {va vb : Value} (h : Both7 H n W es va vb) (hl : es.length ≤ 9) : ∃ N m : Nat, ∃ k u, Fits7 N m u none ∧ (u ≠ none → n = (N : Int)) ∧ (∀ cs, u = some cs → cs.length ≤ 100) ∧ (k = 0 → u ≠ none) ∧ SayF N m W 7 #[.int .i64 n, va] k u ∧ SayG N m W 8 #[.int .i64 n, vb] k u := by
  by_cases hn : 0 ≤ n ∧ n ≤ 8
  · obtain ⟨N, rfl⟩ := Int.eq_ofNat_of_zero_le hn.1
    have N8 : N ≤ 8 := by omega
    refine ⟨N, (N + 1) * (N + 1), ?_⟩
    obtain ⟨⟨ad, cap, rfl, hp⟩, hr⟩ := prow_both h
    have l1 : (es.map eP).length = es.length := List.length_map ..
    cases hN : hasN es
    · refine ⟨0, some (newL (es.map eP)).1, ⟨N8, rfl, fun _ M c h => by cases h⟩, fun _ => rfl, fun cs h => ?_, fun _ h => (by cases h), fun W' hb => ?_, fun W' hb => ?_⟩
      · injection h with h
        rw [← h, newL_cells hN (by omega)]
        exact Nat.le_trans (List.length_filter_le _ _) (Nat.le_trans (cellsE_len es) (by omega))
      · refine (new_own ad cap es.length N ((N + 1) * (N + 1)) (es.map eP) W' N8 l1 (by omega) (hp.past hb) (by rw [hasN_P, hN])).mono ?_
        rintro e w' ⟨⟨h1, -⟩ | ⟨h1, fb, zs, -, rfl, h3, h4⟩, h5, h6⟩
        · rw [newL_cells hN (by omega)] at h1
          exact absurd rfl h1
        · exact ⟨⟨_, rfl, fb, zs, rfl, h3, h4⟩, h6⟩
      · have zc : ∀ b r c, some (b, r, c) ∈ es → ZC N ((N + 1) * (N + 1)) c := fun b r c hm => by
          obtain ⟨M, h2, -, -, -, h5⟩ := h.zones b r c hm
          obtain rfl : N = M := by omega
          exact h5
        have fin : ∀ e w', RNewOut N ((N + 1) * (N + 1)) (es.map (eR ((N + 1) * (N + 1)))) e w' → ∃ p, e = .returned (.tuple #[.pointer p, .int .i64 0]) ∧ Hid (RF7 N ((N + 1) * (N + 1)) w' p (some (newL (es.map eP)).1)) := fun e w' ⟨fb, zs, h1, h2, h3⟩ => by
          refine ⟨_, h1, fb, zs, rfl, h2, ?_⟩
          rw [rnew_cells rfl hN zc h3, newL_cells hN (by omega)]
        rcases hr with ⟨rfl, rfl⟩ | ⟨g, cap', rfl, hr⟩
        · refine (rnew_empty N ((N + 1) * (N + 1)) W' N8).mono ?_
          rintro e w' ⟨h1, h2⟩
          exact ⟨fin e w' h1, h2⟩
        · refine (rnew_any g cap' es.length N ((N + 1) * (N + 1)) (es.map (eR ((N + 1) * (N + 1)))) W' N8 (Nat.mul_pos (by omega) (by omega)) (List.length_map ..) (by omega) (hr.past hb) (by rw [hasN_R, hN])).mono ?_
          rintro e w' ⟨h1, h2⟩
          exact ⟨fin e w' h1, h2⟩
    · refine ⟨1, none, ⟨N8, rfl, fun _ M c h => by cases h⟩, fun h => absurd rfl h, fun cs h => (by cases h), fun h => absurd h (by decide), fun W' hb => ?_, fun W' hb => ?_⟩
      · exact (new_nil ad cap es.length N ((N + 1) * (N + 1)) (es.map eP) W' N8 l1 (by omega) (hp.past hb) (by rw [hasN_P, hN])).mono fun e w' ⟨h1, h2⟩ => ⟨⟨none, h1, rfl⟩, h2⟩
      · rcases hr with ⟨rfl, rfl⟩ | ⟨g, cap', rfl, hr⟩
        · cases hN
        · exact (rnew_nil (some ⟨g, 0, none⟩) cap' es.length N ((N + 1) * (N + 1)) (es.map (eR ((N + 1) * (N + 1)))) W' N8 (List.length_map ..) (by omega) (hr.past hb) (by rw [hasN_R, hN])).mono fun e w' ⟨h1, h2⟩ => ⟨⟨none, h1, rfl⟩, h2⟩
  · refine ⟨0, 1, 12, none, ⟨by omega, rfl, fun _ M c h => by cases h⟩, fun h => absurd rfl h, fun cs h => (by cases h), fun h => absurd h (by decide), fun W' hb => (new_clock n va W' (by omega)).mono fun e w' ⟨h1, h2⟩ => ⟨⟨none, h1, rfl⟩, h2⟩, fun W' hb => (rnew_clock n vb W' (by omega)).mono fun e w' ⟨h1, h2⟩ => ⟨⟨none, h1, rfl⟩, by rw [h2]; exact Below.refl _ _⟩⟩
/-- Plus of one zone. -/
theorem plus_one9 {W : World} {fb n m b : Nat} {c : Row} {zs : List ZR} (hn : n ≤ 8) (hm : m = (n + 1) * (n + 1)) (hf : FedAt W fb n m zs) (hl : zs.length ≤ 300) (hz : ZoneAt W b n c) (zc : ZC n m c) (F : List Row) (hFF : F = ((zs.map (·.2)) ++ [c]).filter (fun c => decide (¬ c 0 < 1))) :
    Calls Tryz.prog 19 #[.pointer (some ⟨fb, 0, none⟩), .slice (some ⟨W.heap.size, 0, none⟩) 1 1] (W.alloc (.cells #[.pointer (some ⟨b, 0, none⟩)] 41)) fun e w' => (∃ fb zs, e = .returned (.tuple #[.pointer (some ⟨fb, 0, none⟩), .int .i64 0]) ∧ Hid (FedAt w' fb n m zs ∧ zs.map (·.2) = F)) ∧ Hid (Below W.heap.size W w') := by
  have b0 := below_one W (.cells #[.pointer (some ⟨b, 0, none⟩)] 41)
  refine (fplus_any fb n m W.heap.size 1 zs [some (b, c)] (fun p x w => ∃ f2 zs2, p = .pointer (some ⟨f2, 0, none⟩) ∧ x = .int .i64 0 ∧ FedAt w f2 n m zs2 ∧ zs2.map (·.2) = F) _ (hf.past b0) ⟨fun k hk => ?_, fun z hz' => ?_⟩ (by simp) (by simp) (fun Y g cap hY hrow => ?_)).mono ?_
  · obtain rfl : k = 0 := by simp at hk; omega
    exact ⟨W.heap.size, rfl, by simp [go_sem]⟩
  · simp at hz'
    subst hz'
    exact ⟨hz.past b0, zc⟩
  · have e : newL (zs.map some ++ [some (b, c)]) = (((zs.map (·.2)) ++ [c]).filter (fun c => decide (¬ c 0 < 1)), 0) := by
      have e1 : (zs.map some ++ [some (b, c)] : List PZ7).map ysP = ((zs.map (·.2)) ++ [c]).map fun c => ((some c, 0) : YS) := by
        rw [List.map_append, List.map_map, List.map_append, List.map_map]
        rfl
      unfold newL
      rw [e1, layL_cells _ _ (by simp; omega)]
      rfl
    refine (new_any _ cap (zs.length + 1) n m (zs.map some ++ [some (b, c)]) Y hn (by simp) (by omega) hrow (by
      refine hasNil_no (fun p hp => ?_)
      rcases List.mem_append.1 hp with q | q
      · obtain ⟨z, -, rfl⟩ := List.mem_map.1 q
        simp
      · rw [List.mem_singleton.1 q]
        simp)).mono ?_
    rintro x w' ⟨h, hb'⟩
    rw [e] at h
    rcases h with ⟨h1, -⟩ | ⟨-, f2, zs2, -, rfl, a, b⟩
    · exact absurd rfl h1
    · exact ⟨⟨_, _, rfl, f2, zs2, rfl, rfl, a, by rw [hFF]; exact b⟩, hb'⟩
  · rintro e w' ⟨⟨p, x, rfl, f2, zs2, rfl, rfl, a, l⟩, hb'⟩
    exact ⟨⟨f2, zs2, rfl, a, l⟩, b0.trans (hb'.mono (by simp))⟩
theorem minus_err {n m : Nat} {d : Row} (hn : n ≤ 8) (hm : m = (n + 1) * (n + 1)) (zd : ZC n m d) {cs : List Row} (hz : ZCs n m cs) : (minusL n m cs d).2 = 0 ∨ (minusL n m cs d).2 = 10 ∨ (minusL n m cs d).2 = 3 := by
  have lay : ∀ (ys : List YS) (s : List Row × Int), (∀ y ∈ ys, y.2 = 0 ∨ y.2 = 10) → (s.2 = 0 ∨ s.2 = 10 ∨ s.2 = 3) → ((layL s ys).2 = 0 ∨ (layL s ys).2 = 10 ∨ (layL s ys).2 = 3) := by
    intro ys
    induction ys with
    | nil => intro s _ h; exact h
    | cons y ys ih =>
      intro s hy h
      refine ih (layS s y) (fun z hz => hy z (List.mem_cons_of_mem _ hz)) ?_
      have e := hy y List.mem_cons_self
      unfold layS
      split
      · exact h
      · rename_i h0
        have h0 : s.2 = 0 := by simpa using h0
        split
        · rcases e with e | e
          · exact .inl e
          · exact .inr (.inl e)
        · split
          · exact h
          · split
            · exact h
            · split
              · exact .inr (.inr rfl)
              · exact .inl rfl
  have key : ∀ (cs : List Row) (s : List Row × Int), ZCs n m cs → (s.2 = 0 ∨ s.2 = 10 ∨ s.2 = 3) → ((cs.foldl (fun s c => layL s (leftY n m c d)) s).2 = 0 ∨ (cs.foldl (fun s c => layL s (leftY n m c d)) s).2 = 10 ∨ (cs.foldl (fun s c => layL s (leftY n m c d)) s).2 = 3) := by
    intro cs
    induction cs with
    | nil => intro s _ h; exact h
    | cons c cs ih =>
      intro s hc h
      rw [List.foldl_cons]
      refine ih _ (fun r hr => hc r (List.mem_cons_of_mem _ hr)) (lay _ _ (fun y hy => ?_) h)
      unfold leftY at hy
      split at hy
      · exact (PI.all (c := c) (d := d) hn hm (hc c List.mem_cons_self).1 zd m (Nat.le_refl _)).err y hy
      · rw [List.mem_singleton.1 hy]; exact .inl rfl
  exact key cs ([], 0) hz (.inl rfl)
/-- One denominator of all. -/
def prodD (L : Rats) : Nat → Int
  | 0 => 1
  | k + 1 => prodD L k * L.d k
theorem prodD_pos {L : Rats} {n : Nat} (h : ∀ k, k < n → 0 < L.d k) : ∀ K, K ≤ n → 1 ≤ prodD L K
  | 0, _ => Int.le_refl _
  | K + 1, hK => by
    have a := prodD_pos h K (by omega)
    have b := h K (by omega)
    have : 0 < prodD L K * L.d K := Int.mul_pos (by omega) b
    show 1 ≤ prodD L K * L.d K
    omega
theorem prodD_dvd {L : Rats} : ∀ K k, k < K → L.d k ∣ prodD L K
  | K + 1, k, hk => by
    by_cases e : k = K
    · subst e
      exact Int.dvd_mul_left _ _
    · exact Int.dvd_trans (prodD_dvd K k (by omega)) (Int.dvd_mul_right _ _)
/-- What is in what, in one valuation. -/
structure Pts7 (n m : Nat) (cs : List Row) (d : Row) (L : Rats) : Prop where
  plus : (((cs ++ [d]).filter (fun c => decide (¬ c 0 < 1))).any fun c => inB n m c L) = ((cs.any fun c => inB n m c L) || inB n m d L)
  few : ((fewK m cs cs.length).any fun c => inB n m c L) = cs.any fun c => inB n m c L
  minus : (minusL n m cs d).2 = 0 → ((minusL n m cs d).1.any fun c => inB n m c L) = ((cs.any fun c => inB n m c L) && !inB n m d L)
  meet : (meetL n m cs d).2 = 0 → ((meetL n m cs d).1.any fun c => inB n m c L) = ((cs.any fun c => inB n m c L) && inB n m d L)
theorem meet_zcs {n m : Nat} {d : Row} (hn : n ≤ 8) (hm : m = (n + 1) * (n + 1)) (zd : ZC n m d) {cs : List Row} (hz : ZCs n m cs) (h : (meetL n m cs d).2 = 0) : ∀ r ∈ (meetL n m cs d).1, ZC n m r := fun r hr => by
  have e := (lay_all (cs.map fun c => comY n m c d) [] h).1
  have hr' : r ∈ (layL ([], 0) (cs.map fun c => comY n m c d)).1 := hr
  rw [e, List.nil_append] at hr'
  obtain ⟨y, hy, e2⟩ := List.mem_filterMap.1 (List.mem_filter.1 hr').1
  obtain ⟨c, hc, rfl⟩ := List.mem_map.1 hy
  unfold comY at e2
  cases ho : zoneR n (drf n m (listOf (minR c d) m)) with
  | none => simp only [ho] at e2; cases e2
  | some o =>
    simp only [ho] at e2
    injection e2 with e2
    subst e2
    exact com_zc hn hm (hz c hc).1 zd ho
theorem few_zcs {n m : Nat} {cs : List Row} (hz : ZCs n m cs) : ∀ r ∈ fewK m cs cs.length, ZC n m r := fun r hr => by
  obtain ⟨k, hk, -, rfl⟩ := (fewK_iff _).1 hr
  rw [atR_get hk]
  exact (hz _ (List.getElem_mem hk)).1
theorem pts7 {n m : Nat} {cs : List Row} {d : Row} (L : Rats) (hn : n ≤ 8) (hm : m = (n + 1) * (n + 1)) (hz : ZCs n m cs) (zd : ZC n m d) : Pts7 n m cs d L := by
  cases hf : fitB L n with
  | false =>
    have e : ∀ c, inB n m c L = false := fun c => by unfold inB; rw [hf]; rfl
    have a : ∀ xs : List Row, (xs.any fun c => inB n m c L) = false := fun xs => by
      rw [List.any_eq_false]
      intro c _
      rw [e c]
      decide
    exact ⟨by rw [a, a, e]; rfl, by rw [a, a], fun _ => by rw [a, a]; rfl, fun _ => by rw [a, a]; rfl⟩
  | true =>
    obtain ⟨hq, hk⟩ := (fitB_iff hn).1 hf
    have hD := prodD_pos (L := L) (fun k hk' => (okR_pos (hk k hk')).2) n (Nat.le_refl _)
    have hv : Val7 (pV (prodD L n) L) (prodD L n) := ⟨hD, pV_pt hn hD hf⟩
    have says : ∀ c, ZC n m c → inB n m c L = inV n m c (pV (prodD L n) L) (prodD L n) := fun c zc => in_says hn hm (zc_right hm zc) hf hD (fun k hk' => prodD_dvd n k hk')
    have anyE : ∀ xs : List Row, (∀ r ∈ xs, ZC n m r) → ((xs.any fun c => inB n m c L) = true ↔ ∃ r ∈ xs, inV n m r (pV (prodD L n) L) (prodD L n) = true) := fun xs hx => by
      rw [List.any_eq_true]
      constructor
      · rintro ⟨r, hr, h⟩; exact ⟨r, hr, by rw [← says r (hx r hr)]; exact h⟩
      · rintro ⟨r, hr, h⟩; exact ⟨r, hr, by rw [says r (hx r hr)]; exact h⟩
    have zcs : ∀ r ∈ cs, ZC n m r := fun r hr => (hz r hr).1
    have ed := says d zd
    refine ⟨?_, ?_, fun h => ?_, fun h => ?_⟩
    · rw [Bool.eq_iff_iff, Bool.or_eq_true, anyE _ (fun r hr => by
        rcases List.mem_append.1 (List.mem_filter.1 hr).1 with q | q
        · exact zcs r q
        · rw [List.mem_singleton.1 q]; exact zd), anyE _ zcs, ed]
      constructor
      · rintro ⟨r, hr, hin⟩
        rcases List.mem_append.1 (List.mem_filter.1 hr).1 with q | q
        · exact .inl ⟨r, q, hin⟩
        · rw [List.mem_singleton.1 q] at hin; exact .inr hin
      · rintro (⟨r, hr, hin⟩ | hin)
        · exact ⟨r, List.mem_filter.2 ⟨List.mem_append.2 (.inl hr), decide_eq_true (hz r hr).2⟩, hin⟩
        · refine ⟨d, List.mem_filter.2 ⟨List.mem_append.2 (.inr (List.mem_singleton.2 rfl)), decide_eq_true fun c0 => ?_⟩, hin⟩
          rw [inV_zero hm hv zd c0] at hin
          cases hin
    · rw [Bool.eq_iff_iff, anyE _ (few_zcs hz), anyE _ zcs]
      exact few_in hm hv hz
    · rw [Bool.eq_iff_iff, Bool.and_eq_true, anyE _ (fun r hr => (minus_zcs hn hm zd hz r hr).1), anyE _ zcs, ed, minus_in hn hm hv zd hz h]
      simp
    · rw [Bool.eq_iff_iff, Bool.and_eq_true, anyE _ (meet_zcs hn hm zd hz h), anyE _ zcs, ed, meetL_in hn hm hv zd hz h]
end Go.Proofs.YtnfkmpickmonoaaGreat
