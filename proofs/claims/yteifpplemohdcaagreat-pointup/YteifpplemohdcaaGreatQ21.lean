/-
  point.gather of numbers of a grid, and point.Least.
-/
import Derived.Test.YteifpplemohdcaaGreatQ20
namespace Go.Proofs.YteifpplemohdcaaGreat
open Go.RowKit Go.Shelf
set_option linter.unusedVariables false
set_option maxRecDepth 100000
theorem least1_any (x g : Int) (Bg : Nat) (w : World) (hx : I64 x) (hg : I64 g) (hc : w.cell? ⟨Bg, 0, none⟩ = some (.int .i64 g)) :
    Calls Tryz.prog 72 #[.int .i64 x, .pointer (some ⟨Bg, 0, none⟩)] w fun e w' => e = .returned (trip (newT x g)) ∧ Below w.heap.size w w' := by
  have HN := hideR (fun w => rnew_any x g w hx hg)
  generalize newT x g = t at *
  obtain ⟨t0, t1, t2⟩ := t
  have B0 := single w (.cells #[.int .i64 0, .int .i64 0] 24)
  have c0 := kc _ _ B0 hc
  clear hx hg hc
  go_enter Tryz.func72, Tryz.ntmps72
  go_wp2_with fail
  refine (HN.out _).mono ?_
  rintro e w1 ⟨rfl, hb⟩
  have s2 := kc ⟨w.heap.size, 0, none⟩ (.int .i64 0) hb (by first | assumption | simp [go_sem, *])
  have s3 := kc ⟨w.heap.size, 1, none⟩ (.int .i64 0) hb (by first | assumption | simp [go_sem, *])
  have s4 := kf ⟨w.heap.size, 0, none⟩ (.int .i64 0) hb (by first | assumption | simp [go_sem, *]) (by first | assumption | simp [go_sem, *])
  have s5 := kf ⟨w.heap.size, 1, none⟩ (.int .i64 0) hb (by first | assumption | simp [go_sem, *]) (by first | assumption | simp [go_sem, *])
  have hB := hideR (beyond B0 hb)
  clear hb B0 c0
  go_wp2_with fail
  refine bodyPost_ret (v := trip (t0, t1, t2)) (by simp [results, Tryz.results72, go_sem, *]) rfl ⟨rfl, ?_⟩
  exact set2 hB.out (Nat.le_refl _) _ _
/-- The fractions of numbers on a grid. -/
def gridL (n : Nat) (u : Nat → Int) (g : Int) : Rats := ⟨n, fun k => (newT (u k) g).1, fun k => (newT (u k) g).2.1⟩
def ratCk (L : Rats) (K : Nat) : List Value := (List.range (K * 2)).map (ratJ L)
theorem ratCk_next (L : Rats) (K : Nat) : ratCk L (K + 1) = ratCk L K ++ [.int .i64 (L.n K), .int .i64 (L.d K)] := by
  unfold ratCk
  rw [show (K + 1) * 2 = K * 2 + 1 + 1 by omega, List.range_succ, List.range_succ]
  simp only [List.map_append, List.map_cons, List.map_nil, List.append_assoc, List.cons_append, List.nil_append]
  unfold ratJ
  rw [if_pos (by omega), if_neg (by omega), show K * 2 / 2 = K by omega, show (K * 2 + 1) / 2 = K by omega]
/-- It lies in a row of the call's own. -/
def NewAt (W : World) (base : Nat) (ad : Option Addr) (n cap : Nat) : Prop := ∃ xs, W.ownsRow base 24 2 (.slice ad n cap) n xs
theorem NewAt.mono {W : World} {base base' : Nat} {ad : Option Addr} {n cap : Nat} (h : NewAt W base' ad n cap) (hb : base ≤ base') : NewAt W base ad n cap := by
  obtain ⟨xs, h1, h2⟩ := h
  refine ⟨xs, h1, ?_⟩
  rcases h2 with h2 | ⟨g, c, cur, e, hg, r⟩
  · exact .inl h2
  · exact .inr ⟨g, c, cur, e, Nat.le_trans hb hg, r⟩
theorem own_ratV {W : World} {base n : Nat} {v : Value} {L : Rats} (hq : L.q = n) (h : W.ownsRow base 24 2 v n (ratCk L n)) : ∃ ad cap, v = .slice ad n cap ∧ (ad = none → n = 0 ∧ cap = 0) ∧ RatV W ad L ∧ NewAt W base ad n cap := by
  rcases h.2 with ⟨rfl, hn0⟩ | ⟨g, cap, cur, rfl, hg, h2, h3, h4, h5, h6⟩
  · have this : n = 0 := hn0
    subst this
    exact ⟨none, 0, rfl, fun _ => ⟨rfl, rfl⟩, fun k hk => by omega, _, h⟩
  · refine ⟨_, cap, rfl, fun e => by simp at e, fun k hk => ?_, _, h⟩
    have get : ∀ j, j < n * 2 → (ratCk L n)[j]? = some (ratJ L j) := fun j hj => by unfold ratCk; rw [List.getElem?_map, List.getElem?_range hj]; rfl
    have h0 := World.ownsRow.cells h (g := g) rfl (k * 2) _ (get (k * 2) (by omega))
    have h1 := World.ownsRow.cells h (g := g) rfl (k * 2 + 1) _ (get (k * 2 + 1) (by omega))
    rw [Addr.add_lit] at h0 h1
    unfold ratJ at h0 h1
    rw [if_pos (by omega), show k * 2 / 2 = k by omega] at h0
    rw [if_neg (by omega), show (k * 2 + 1) / 2 = k by omega] at h1
    exact ⟨g, 0, rfl, h0, by rw [Nat.add_assoc]; exact h1⟩
theorem two_news (W : World) (x y : Value) (T : TypeId) (d : Addr) (e : some (⟨W.heap.size, 0, none⟩ : Addr) = some d) (j : Nat) (u : Value) (h : [x, y][j]? = some u) : (W.alloc (.cells #[x, y] T)).cell? (d.add j) = some u := by
  injection e with e
  subst e
  rw [Addr.add_lit]
  match j, h with
  | 0, h => simpa [go_sem] using h
  | 1, h => simpa [go_sem] using h
  | j + 2, h => simp at h
theorem own_ge {W : World} {base : Nat} {t : TypeId} {size n : Nat} {v : Value} {xs : List Value} (h : W.ownsRow base t size v n xs) (k : Nat) (hk : v.ownBlock = some k) : base ≤ k := (h.lt k hk).1
set_option maxHeartbeats 2000000 in
theorem gather_any (gu off n cap Bg : Nat) (u : Nat → Int) (g : Int) (w : World) (hn : n ≤ 8) (hu : ∀ k, k < n → w.cell? ⟨gu, off + k, none⟩ = some (.int .i64 (u k))) (hI : ∀ k, k < n → I64 (u k)) (hg : I64 g) (hc : w.cell? ⟨Bg, 0, none⟩ = some (.int .i64 g)) (h0 : ∀ k, k < n → (newT (u k) g).2.2 = 0) :
    Calls Tryz.prog 70 #[.slice (some ⟨gu, off, none⟩) n cap, .func (.func 72) #[] #[.pointer (some ⟨Bg, 0, none⟩)]] w fun e w' => (∃ ad cap', e = .returned (.tuple #[.slice ad n cap', .int .i64 0]) ∧ (ad = none → n = 0 ∧ cap' = 0) ∧ RatV w' ad (gridL n u g) ∧ NewAt w' w.heap.size ad n cap') ∧ Below w.heap.size w w' := by
  obtain ⟨i0, hi, hz0, hz1, hz2⟩ := info_parts info_rat
  have HU := hideR hu
  have HI := hideR hI
  have HG := hideR hg
  have HC := hideR hc
  have H0 := hideR h0
  clear hu hI hg hc h0
  go_enter Tryz.func70, Tryz.ntmps70
  go_wp2_with fail
  go_loopw [6, 13] (fun l s wr => ∃ (K : Nat) (v : Value), K ≤ n ∧ l = v ∧ s = .int .i64 (K : Int) ∧ Hid (wr.ownsRow w.heap.size 24 2 v K (ratCk (gridL n u g) K)) ∧ Hid (Below w.heap.size w wr)) (fun _ s _ => n - (intOf s).toNat)
  case atStart => exact ⟨0, _, Nat.zero_le _, rfl, rfl, World.ownsRow_nil _ _ _ _, Below.refl _ _⟩
  case round =>
    obtain ⟨K, v, hK, hv, rfl, O, B⟩ := hrel
    replace hv := hv.symm
    subst hv
    by_cases ck : K < n
    · have c0 := kc _ _ B.out (HU.out K ck)
      have k0 : (K : Int) < (n : Int) := by omega
      have HL := hideR (fun w' (h : Below w.heap.size w w') => least1_any (u K) g Bg w' (HI.out K ck) HG.out (kc _ _ h HC.out))
      have e0 := H0.out K ck
      have RN : Hid (ratCk (gridL n u g) (K + 1) = ratCk (gridL n u g) K ++ [.int .i64 (newT (u K) g).1, .int .i64 (newT (u K) g).2.1]) := ratCk_next _ K
      generalize newT (u K) g = t at *
      obtain ⟨t0, t1, t2⟩ := t
      simp only at e0
      subst e0
      generalize u K = x at *
      go_wp2_with fail
      refine (HL.out _ B.out).mono ?_
      rintro e w1 ⟨rfl, hb⟩
      have O1 : w1.ownsRow w.heap.size 24 2 v K (ratCk (gridL n u g) K) := World.ownsRow.kept O.out (grown_below hb (Nat.le_refl _)) (by cases v.ownBlock <;> simp)
      have B1 := hideR (beyond B.out hb)
      clear hb HL c0
      go_wp2_with (at_builtin; refine wp_app_any _ rfl _ _ 22 rfl w.heap.size 24 i0 (.agg #[.int .i64 0, .int .i64 0]) 2 16 Tryz.underlying22 hi hz0 hz1 hz2 rfl (by decide) _ K _ rfl ((O1.alloc _).alloc _) _ 1 1 [.int .i64 t0, .int .i64 t1] rfl (fun e => by cases e) rfl (fun d e j u h => two_news _ _ _ _ d (by rw [← e]; simp) j u h) (by simp [Value.oneCell']) (by unfold maxLen; omega) (by omega) (by have := B1.out.size; simp; omega) ?_; intro v' w2 hown hgrow)
      have B2 : Hid (Below w.heap.size w w2) := by
        have h2 := beyond B1.out (two w1 (.cells #[.int .i64 t0, .int .i64 t1] 24) (.cells #[.int .i64 t0, .int .i64 t1] 24))
        rcases hgrow with e | hg
        · rw [e]; exact h2
        · exact h2.grown hg h2.size (fun k hk => own_ge O1 k hk)
      have O2 : Hid (w2.ownsRow w.heap.size 24 2 v' (K + 1) (ratCk (gridL n u g) (K + 1))) := by
        show w2.ownsRow _ _ _ _ _ _
        rw [RN.out]
        exact hown
      clear hown hgrow O1 B1 O B RN
      go_wp2_with fail
      go_roundw
      case rel => exact ⟨K + 1, v', by omega, rfl, by go_num, O2, B2⟩
      case measure => simp [intOf]; omega
    · have eK : K = n := by omega
      have k0 : ¬ (K : Int) < (n : Int) := by omega
      have O2 : Hid (wr.ownsRow w.heap.size 24 2 v n (ratCk (gridL n u g) n)) := by
        have e := O.out
        rw [eK] at e
        exact e
      obtain ⟨ad, cap', rfl, h1, h2, h3⟩ := own_ratV (L := gridL n u g) rfl O2.out
      have HH : Hid ((ad = none → n = 0 ∧ cap' = 0) ∧ RatV wr ad (gridL n u g) ∧ NewAt wr w.heap.size ad n cap') := ⟨h1, h2, h3⟩
      clear O O2 eK h1 h2 h3
      go_wp2_with fail
      go_ret2
      exact ⟨⟨ad, cap', rfl, HH.out.1, HH.out.2.1, HH.out.2.2⟩, B.out⟩
theorem emptyP_any (b n : Nat) (c : Row) (w : World) (hn : n ≤ 8) (hz : ZoneAt w b n c) :
    Calls Tryz.prog 68 #[.pointer (some ⟨b, 0, none⟩)] w fun e w' => e = .returned (.bool (decide (c 0 < 1))) ∧ Below w.heap.size w w' := by
  have H := hideR (hollow_any b n c w hn hz)
  generalize decide (c 0 < 1) = q at *
  clear hz
  go_enter Tryz.func68, Tryz.ntmps68
  go_wp2_with fail
  refine H.out.mono ?_
  rintro e w' ⟨rfl, hb⟩
  go_wp2_with fail
  go_ret
  exact ⟨rfl, hb⟩
/-- What the least valuation has, in units. -/
def unitsF (n : Nat) (c : Row) (k : Nat) : Int := gRounds n (pW n c) ((n : Int) + 1) n (fun _ => 0) (k + 1)
set_option maxHeartbeats 2000000 in
theorem leastP_any (b n m : Nat) (c : Row) (w : World) (hn : n ≤ 8) (hm : m = (n + 1) * (n + 1)) (hz : ZoneAt w b n c) (hc : ∀ k, rightB (c k) = true) (h : ¬ c 0 < 1) (h0 : ∀ k, k < n → (newT (unitsF n c k) ((n : Int) + 1)).2.2 = 0) :
    Calls Tryz.prog 21 #[.pointer (some ⟨b, 0, none⟩)] w fun e w' => (∃ ad cap', e = .returned (.tuple #[.slice ad n cap', .int .i64 0]) ∧ (ad = none → n = 0 ∧ cap' = 0) ∧ RatV w' ad (gridL n (unitsF n c) ((n : Int) + 1)) ∧ NewAt w' w.heap.size ad n cap') ∧ Below w.heap.size w w' := by
  have HE := hideR (emptyP_any b n c w hn hz)
  rw [decide_eq_false h] at HE
  obtain ⟨N, hN⟩ : ∃ N, N = n + 1 := ⟨_, rfl⟩
  obtain ⟨g, hg⟩ : ∃ g : Int, g = (n : Int) + 1 := ⟨_, rfl⟩
  have ws : wrap64 ((n : Int) + 1) = g := by rw [hg]; unfold wrap64; omega
  have HD := hideR (fun W (hb : Below w.heap.size w W) => dim_any b n c W (hz.past hb))
  have HL := hideR (fun W (hb : Below w.heap.size w W) => callsIn_wide.1 (least_in b n m N c W g hN hn hm (hz.past hb) hc hg))
  have hU : Hid (∀ k, gRounds n (pW n c) g n (fun _ => 0) (k + 1) = unitsF n c k) := fun k => by rw [hg]; rfl
  have hI : Hid (∀ k, k < n → I64 (unitsF n c k)) := fun k hk => by
    have hb := rounds_bd (n := n) (c := c) hm hc (show 1 ≤ g by omega) (show g ≤ 9 by omega) n (k + 1)
    rw [hU.out k] at hb
    have hm8 : m ≤ 81 := by rw [hm]; exact Nat.mul_le_mul (show n + 1 ≤ 9 by omega) (show n + 1 ≤ 9 by omega)
    have e1 : (n : Int) * ((m : Int) * 2415919105) ≤ 8 * (81 * 2415919105) := Int.mul_le_mul (by omega) (by omega) (by omega) (by omega)
    exact ⟨by omega, by omega⟩
  have h0' : Hid (∀ k, k < n → (newT (unitsF n c k) g).2.2 = 0) := fun k hk => by rw [hg]; exact h0 k hk
  rw [← hg]
  have hgI : Hid (I64 g) := ⟨by omega, by omega⟩
  have HN := hideR hN
  have HNn := hideR hn
  clear hz h h0 hg hm hN hn
  go_enter Tryz.func21, Tryz.ntmps21
  go_wp2_with fail
  refine HE.out.mono ?_
  rintro e w1 ⟨rfl, hb⟩
  have HB := hideR hb
  have HD1 := hideR (HD.out w1 hb)
  clear hb HE HD
  go_wp2_with fail
  refine HD1.out.mono ?_
  rintro e w2 ⟨rfl, e1⟩
  obtain rfl := e1.symm
  clear e1 HD1
  have bx : (w1.alloc (.cells #[.int .i64 g] 103)).cell? ⟨w1.heap.size, 0, none⟩ = some (.int .i64 g) := by simp [go_sem]
  have B2 := beyond HB.out (single w1 (.cells #[.int .i64 g] 103))
  go_wp2_with fail
  have HL2 := hideR (HL.out _ B2)
  generalize w1.alloc (.cells #[.int .i64 g] 103) = W at *
  refine HL2.out.mono ?_
  rintro e w3 ⟨⟨gu, rfl, g0, hcell⟩, hb⟩
  have HC : Hid (∀ k, k < n → w3.cell? ⟨gu, k + 1, none⟩ = some (.int .i64 (unitsF n c k))) := fun k hk => by
    have h := hcell (k + 1) (by omega)
    rw [hU.out k] at h
    exact h
  have bx3 := kc _ _ hb bx
  have B3 := hideR (beyond B2 hb)
  clear hcell hb bx B2 HL HL2 HB hU
  by_cases c1 : N = 1
  · have n0 : n = 0 := by have := HN.out; omega
    have HGa := hideR (gather_any gu 0 n 0 w1.heap.size (unitsF n c) g w3 HNn.out (fun k hk => by omega) hI.out hgI.out bx3 h0'.out)
    subst c1
    subst n0
    go_wp2_with fail
    refine HGa.out.mono ?_
    rintro e w4 ⟨⟨ad, cap', rfl, h1, h2, h3⟩, hb⟩
    have HH : Hid ((ad = none → cap' = 0) ∧ RatV w4 ad (gridL 0 (unitsF 0 c) g) ∧ NewAt w4 w.heap.size ad 0 cap') := ⟨fun e => (h1 e).2, h2, h3.mono B3.out.size⟩
    have B4 := hideR (beyond B3.out hb)
    clear h1 h2 h3 hb HGa
    go_wp2_with fail
    go_ret2
    exact ⟨⟨ad, cap', rfl, HH.out.1, HH.out.2.1, HH.out.2.2⟩, B4.out⟩
  · have n1 : (1 : Int) ≤ (N : Int) := by have := HN.out; omega
    have n2 : N - 1 = n := by have := HN.out; omega
    have n3 : 1 ≤ N := by omega
    have HGa := hideR (gather_any gu 1 n n w1.heap.size (unitsF n c) g w3 HNn.out (fun k hk => by rw [Nat.add_comm]; exact HC.out k hk) hI.out hgI.out bx3 h0'.out)
    have n9 : N ≤ 9 := by have := HN.out; have := HNn.out; omega
    go_wp2_with fail
    refine HGa.out.mono ?_
    rintro e w4 ⟨⟨ad, cap', rfl, h1, h2, h3⟩, hb⟩
    have HH : Hid ((ad = none → n = 0 ∧ cap' = 0) ∧ RatV w4 ad (gridL n (unitsF n c) g) ∧ NewAt w4 w.heap.size ad n cap') := ⟨h1, h2, h3.mono B3.out.size⟩
    have B4 := hideR (beyond B3.out hb)
    clear h1 h2 h3 hb HGa
    go_wp2_with fail
    go_ret2
    exact ⟨⟨ad, cap', rfl, HH.out.1, HH.out.2.1, HH.out.2.2⟩, B4.out⟩
end Go.Proofs.YteifpplemohdcaaGreat

/-
  point.Wait.
-/
namespace Go.Proofs.YteifpplemohdcaaGreat
open Go.RowKit Go.Shelf
set_option linter.unusedVariables false
set_option maxRecDepth 100000
theorem wait1_any (an ad bn bd : Int) (Bg : Nat) (w : World) (ha : I64 an) (hb : I64 ad) (hc : I64 bn) (hd : I64 bd) (c0 : w.cell? ⟨Bg, 0, none⟩ = some (.int .i64 bn)) (c1 : w.cell? ⟨Bg, 1, none⟩ = some (.int .i64 bd)) :
    Calls Tryz.prog 37 #[rv an ad, .pointer (some ⟨Bg, 0, none⟩)] w fun e w' => e = .returned (trip (addT an ad bn bd)) ∧ Below w.heap.size w w' := by
  have HN := hideR (fun w => radd_any an ad bn bd w ha hb hc hd)
  generalize addT an ad bn bd = t at *
  obtain ⟨t0, t1, t2⟩ := t
  have B0 := two w (.cells #[.int .i64 an, .int .i64 ad] 24) (.cells #[.int .i64 0, .int .i64 0] 24)
  have c0 := kc _ _ B0 c0
  have c1 := kc _ _ B0 c1
  clear ha hb hc hd
  go_enter Tryz.func37, Tryz.ntmps37
  go_wp2_with fail
  refine (HN.out _).mono ?_
  rintro e w1 ⟨rfl, hb⟩
  have s2 := kc ⟨w.heap.size + 1, 0, none⟩ (.int .i64 0) hb (by first | assumption | simp [go_sem, *])
  have s3 := kc ⟨w.heap.size + 1, 1, none⟩ (.int .i64 0) hb (by first | assumption | simp [go_sem, *])
  have s4 := kf ⟨w.heap.size + 1, 0, none⟩ (.int .i64 0) hb (by first | assumption | simp [go_sem, *]) (by first | assumption | simp [go_sem, *])
  have s5 := kf ⟨w.heap.size + 1, 1, none⟩ (.int .i64 0) hb (by first | assumption | simp [go_sem, *]) (by first | assumption | simp [go_sem, *])
  have hB := hideR (beyond B0 hb)
  clear hb B0 c0 c1
  go_wp2_with fail
  refine bodyPost_ret (v := trip (t0, t1, t2)) (by simp [results, Tryz.results37, go_sem, *]) rfl ⟨rfl, ?_⟩
  exact set2 hB.out (by omega) _ _
/-- Each later by a delay. -/
def waitL (L : Rats) (n d : Int) : Rats := ⟨L.q, fun k => (addT (L.n k) (L.d k) n d).1, fun k => (addT (L.n k) (L.d k) n d).2.1⟩
def WaitOut (w' : World) (base : Nat) (L : Rats) (n d : Int) (e : Ending) : Prop :=
  (∃ K, K < L.q ∧ (addT (L.n K) (L.d K) n d).2.2 ≠ 0 ∧ e = .returned (.tuple #[.slice none 0 0, .int .i64 (addT (L.n K) (L.d K) n d).2.2])) ∨
  ((∀ K, K < L.q → (addT (L.n K) (L.d K) n d).2.2 = 0) ∧ ∃ ad cap', e = .returned (.tuple #[.slice ad L.q cap', .int .i64 0]) ∧ (ad = none → L.q = 0 ∧ cap' = 0) ∧ RatV w' ad (waitL L n d) ∧ NewAt w' base ad L.q cap')
set_option maxHeartbeats 2000000 in
theorem gatherR_any (ad : Option Addr) (q cap Bg : Nat) (L : Rats) (n d : Int) (w : World) (hq : L.q = q) (q8 : q ≤ 8) (hV : RatV w ad L) (hI : RatI L) (hn : I64 n) (hd : I64 d) (c0 : w.cell? ⟨Bg, 0, none⟩ = some (.int .i64 n)) (c1 : w.cell? ⟨Bg, 1, none⟩ = some (.int .i64 d)) :
    Calls Tryz.prog 36 #[.slice ad q cap, .func (.func 37) #[] #[.pointer (some ⟨Bg, 0, none⟩)]] w fun e w' => WaitOut w' w.heap.size L n d e ∧ Below w.heap.size w w' := by
  obtain ⟨i0, hi, hz0, hz1, hz2⟩ := info_parts info_rat
  have HV := hideR hV
  have HI := hideR hI
  have HC : Hid ((w.cell? ⟨Bg, 0, none⟩ = some (.int .i64 n)) ∧ w.cell? ⟨Bg, 1, none⟩ = some (.int .i64 d)) := ⟨c0, c1⟩
  have HQ := hideR hq
  have HN := hideR (show I64 n ∧ I64 d from ⟨hn, hd⟩)
  have n1 : (q : Int) ≤ 8 := by omega
  clear hV hI c0 c1 hn hd hq
  go_enter Tryz.func36, Tryz.ntmps36
  go_wp2_with fail
  go_loopw [6, 13] (fun l s wr => ∃ (K : Nat) (v : Value), K ≤ q ∧ l = v ∧ s = .int .i64 (K : Int) ∧ Hid (∀ k, k < K → (addT (L.n k) (L.d k) n d).2.2 = 0) ∧ Hid (wr.ownsRow w.heap.size 24 2 v K (ratCk (waitL L n d) K)) ∧ Hid (Below w.heap.size w wr)) (fun _ s _ => q - (intOf s).toNat)
  case atStart => exact ⟨0, _, Nat.zero_le _, rfl, rfl, fun k hk => absurd hk (Nat.not_lt_zero _), World.ownsRow_nil _ _ _ _, Below.refl _ _⟩
  case round =>
    obtain ⟨K, v, hK, hv, rfl, E, O, B⟩ := hrel
    replace hv := hv.symm
    subst hv
    by_cases ck : K < q
    · obtain ⟨b, off, rfl, e0, e1⟩ := HV.out K (by rw [HQ.out]; exact ck)
      have e0 := kc _ _ B.out e0
      have e1 := kc _ _ B.out e1
      have k0 : (K : Int) < (q : Int) := by omega
      have iK := HI.out K (by rw [HQ.out]; exact ck)
      have HL := hideR (fun w' (h : Below w.heap.size w w') => wait1_any (L.n K) (L.d K) n d Bg w' iK.1 iK.2 HN.out.1 HN.out.2 (kc _ _ h HC.out.1) (kc _ _ h HC.out.2))
      have RN : Hid (ratCk (waitL L n d) (K + 1) = ratCk (waitL L n d) K ++ [.int .i64 (addT (L.n K) (L.d K) n d).1, .int .i64 (addT (L.n K) (L.d K) n d).2.1]) := ratCk_next _ K
      obtain ⟨T, eT⟩ : ∃ T, T = addT (L.n K) (L.d K) n d := ⟨_, rfl⟩
      have HT := hideR eT
      rw [← eT] at HL RN
      clear iK eT
      generalize L.n K = x at HL e0 e1
      generalize L.d K = y at HL e0 e1
      obtain ⟨t0, t1, t2⟩ := T
      have Ba := hideR (beyond B.out (single wr (.cells #[.int .i64 x, .int .i64 y] 24)))
      have HL := hideR (HL.out _ Ba.out)
      go_wp2_with fail
      refine HL.out.mono ?_
      rintro e w1 ⟨rfl, hb⟩
      have O1 : w1.ownsRow w.heap.size 24 2 v K (ratCk (waitL L n d) K) := World.ownsRow.kept (O.out.alloc _) (grown_below hb (Nat.le_refl _)) (by cases v.ownBlock <;> simp)
      have B1 := hideR (beyond Ba.out hb)
      clear hb HL e0 e1
      by_cases tz : t2 = 0
      · subst tz
        go_wp2_with (at_builtin; refine wp_app_any _ rfl _ _ 22 rfl w.heap.size 24 i0 (.agg #[.int .i64 0, .int .i64 0]) 2 16 Tryz.underlying22 hi hz0 hz1 hz2 rfl (by decide) _ K _ rfl ((O1.alloc _).alloc _) _ 1 1 [.int .i64 t0, .int .i64 t1] rfl (fun e => by cases e) rfl (fun d e j u h => two_news _ _ _ _ d (by rw [← e]; simp) j u h) (by simp [Value.oneCell']) (by unfold maxLen; omega) (by omega) (by have := B1.out.size; simp; omega) ?_; intro v' w2 hown hgrow)
        have B2 : Hid (Below w.heap.size w w2) := by
          have h2 := beyond B1.out (two w1 (.cells #[.int .i64 t0, .int .i64 t1] 24) (.cells #[.int .i64 t0, .int .i64 t1] 24))
          rcases hgrow with e | hg
          · rw [e]; exact h2
          · exact h2.grown hg h2.size (fun k hk => own_ge O1 k hk)
        have O2 : Hid (w2.ownsRow w.heap.size 24 2 v' (K + 1) (ratCk (waitL L n d) (K + 1))) := by
          show w2.ownsRow _ _ _ _ _ _
          rw [RN.out]
          exact hown
        have E2 : Hid (∀ k, k < K + 1 → (addT (L.n k) (L.d k) n d).2.2 = 0) := fun k hk => by
          by_cases e : k = K
          · subst e
            rw [← HT.out]
          · exact E.out k (by omega)
        clear hown hgrow O1 B1 O B RN
        go_wp2_with fail
        go_roundw
        case rel => exact ⟨K + 1, v', by omega, rfl, by go_num, E2, O2, B2⟩
        case measure => simp [intOf]; omega
      · have tz' : (t2 != 0) = true := by simpa using tz
        have W0 : Hid (∃ K, K < L.q ∧ (addT (L.n K) (L.d K) n d).2.2 ≠ 0 ∧ t2 = (addT (L.n K) (L.d K) n d).2.2) := ⟨K, by rw [HQ.out]; exact ck, by rw [← HT.out]; exact tz, by rw [← HT.out]⟩
        have B2 := hideR (beyond B1.out (single w1 (.cells #[.int .i64 t0, .int .i64 t1] 24)))
        clear O1 B1 O B RN HT E
        go_wp2_with fail
        go_ret2
        obtain ⟨K', h1, h2, h3⟩ := W0.out
        exact ⟨.inl ⟨K', h1, h2, by rw [← h3]; rfl⟩, B2.out⟩
    · have eK : K = q := by omega
      have k0 : ¬ (K : Int) < (q : Int) := by omega
      have O2 := O.out
      rw [eK] at O2
      obtain ⟨ad2, cap2, rfl, h1, h2, h3⟩ := own_ratV (n := q) (L := waitL L n d) HQ.out O2
      have HH : Hid (WaitOut wr w.heap.size L n d (.returned (.tuple #[.slice ad2 q cap2, .int .i64 0]))) := .inr ⟨fun k hk => E.out k (by rw [eK, ← HQ.out]; exact hk), ad2, cap2, by rw [HQ.out], fun h => by rw [HQ.out]; exact h1 h, h2, by rw [HQ.out]; exact h3⟩
      clear O O2 eK h1 h2 h3 E
      go_wp2_with fail
      go_ret2
      exact ⟨HH.out, B.out⟩
/-- What waiting tells: ErrForm of what is not right, what rat.Add tells, or each later. -/
theorem waitP_any (ad : Option Addr) (q cap : Nat) (L : Rats) (n d : Int) (w : World) (hq : L.q = q) (q1 : q ≤ 9223372036854775807) (hV : RatV w ad L) (hI : RatI L) (hn : I64 n) (hd : I64 d) :
    Calls Tryz.prog 7 #[.slice ad q cap, rv n d] w fun e w' => ((rightL L && okR n d) = false ∧ e = .returned (.tuple #[.slice none 0 0, .int .i64 7]) ∨ (rightL L && okR n d) = true ∧ WaitOut w' w.heap.size L n d e) ∧ Below w.heap.size w w' := by
  have Ba := hideR (single w (.cells #[.int .i64 n, .int .i64 d] 24))
  have HR := hideR (pright_any ad cap q L _ hq q1 (hV.later Ba.out) hI)
  have HM := hideR (fun w => mayPass_any n d w hn hd)
  have q8 : rightL L = true → q ≤ 8 := fun h => by
    unfold rightL at h
    simp only [Bool.and_eq_true, decide_eq_true_eq] at h
    omega
  have HG := hideR (fun W h8 (hb : Below w.heap.size w W) c0 c1 => gatherR_any ad q cap w.heap.size L n d W hq h8 (hV.later hb) hI hn hd c0 c1)
  clear hV hI hn hd hq
  cases r : rightL L with
  | false =>
    rw [r] at HR
    clear HG q8
    go_enter Tryz.func7, Tryz.ntmps7
    go_wp2_with fail
    refine HR.out.mono ?_
    rintro e w1 ⟨rfl, hb⟩
    have B1 := hideR (beyond Ba.out hb)
    clear hb HR
    go_wp2_with fail
    go_ret2
    exact ⟨.inl ⟨rfl, rfl⟩, B1.out⟩
  | true =>
    rw [r] at HR
    have q8 := q8 r
    cases o : okR n d with
    | false =>
      rw [o] at HM
      clear HG
      go_enter Tryz.func7, Tryz.ntmps7
      go_wp2_with fail
      refine HR.out.mono ?_
      rintro e w1 ⟨rfl, hb⟩
      have s0 := kc ⟨w.heap.size, 0, none⟩ (.int .i64 n) hb (by simp [go_sem])
      have s1 := kc ⟨w.heap.size, 1, none⟩ (.int .i64 d) hb (by simp [go_sem])
      have B1 := hideR (beyond Ba.out hb)
      clear hb HR
      go_wp2_with fail
      refine (HM.out _).mono ?_
      rintro e w2 ⟨rfl, hb⟩
      have B2 := hideR (beyond B1.out hb)
      clear hb HM B1 s0 s1
      go_wp2_with fail
      go_ret2
      exact ⟨.inl ⟨rfl, rfl⟩, B2.out⟩
    | true =>
      rw [o] at HM
      go_enter Tryz.func7, Tryz.ntmps7
      go_wp2_with fail
      refine HR.out.mono ?_
      rintro e w1 ⟨rfl, hb⟩
      have s0 := kc ⟨w.heap.size, 0, none⟩ (.int .i64 n) hb (by simp [go_sem])
      have s1 := kc ⟨w.heap.size, 1, none⟩ (.int .i64 d) hb (by simp [go_sem])
      have B1 := hideR (beyond Ba.out hb)
      clear hb HR
      go_wp2_with fail
      refine (HM.out _).mono ?_
      rintro e w2 ⟨rfl, hb⟩
      have z0 := kc _ _ hb s0
      have z1 := kc _ _ hb s1
      have B2 := hideR (beyond B1.out hb)
      have H2 := hideR (HG.out w2 q8 B2.out z0 z1)
      clear hb HM B1 s0 s1 HG z0 z1
      go_wp2_with fail
      refine H2.out.mono ?_
      rintro e w3 ⟨ho, hb⟩
      have B3 := hideR (beyond B2.out hb)
      have S2 := hideR B2.out.size
      clear hb H2 B2
      rcases ho with ⟨K, h1, h2, rfl⟩ | ⟨h0, ad2, cap2, rfl, h1, h2, h3⟩
      · obtain ⟨t2, et⟩ : ∃ t2, t2 = (addT (L.n K) (L.d K) n d).2.2 := ⟨_, rfl⟩
        rw [← et]
        have W0 : Hid (∃ K, K < L.q ∧ (addT (L.n K) (L.d K) n d).2.2 ≠ 0 ∧ t2 = (addT (L.n K) (L.d K) n d).2.2) := ⟨K, h1, h2, et⟩
        clear h1 h2 et
        go_wp2_with fail
        go_ret2
        obtain ⟨K', h1, h2, h3⟩ := W0.out
        exact ⟨.inr ⟨rfl, .inl ⟨K', h1, h2, by rw [← h3]; rfl⟩⟩, B3.out⟩
      · have HH : Hid (WaitOut w3 w.heap.size L n d (.returned (.tuple #[.slice ad2 L.q cap2, .int .i64 0]))) := .inr ⟨h0, ad2, cap2, rfl, h1, h2, h3.mono S2.out⟩
        clear h0 h1 h2 h3
        go_wp2_with fail
        go_ret2
        exact ⟨.inr ⟨rfl, HH.out⟩, B3.out⟩
end Go.Proofs.YteifpplemohdcaaGreat
