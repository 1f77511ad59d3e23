/-
  point.gather of numbers of a grid, and point.Least.
-/
import Derived.Test.YteifpplemohdcaaGreatDoorQ16
import Derived.Test.YteifpplemohdcaaGreatDoorQ0
import Derived.Test.YteifpplemohdcaaGreatDoorQ9
namespace Go.Proofs.YteifpplemohdcaaGreatDoor
open Go.RowKit Go.Shelf
set_option linter.unusedVariables false
set_option maxRecDepth 100000
theorem least1_any (x g : Int) (Bg : Nat) (w : World) (hx : I64 x) (hg : I64 g) (hc : w.cell? ⟨Bg, 0, none⟩ = some (.int .i64 g)) :
    Calls Tryz.prog 42 #[.int .i64 x, .pointer (some ⟨Bg, 0, none⟩)] w fun e w' => e = .returned (trip (newT x g)) ∧ Below w.heap.size w w' := by
  have HN := hideR (fun w => rnew_any x g w hx hg)
  generalize newT x g = t at *
  obtain ⟨t0, t1, t2⟩ := t
  have B0 := single w (.cells #[.int .i64 0, .int .i64 0] 33)
  have c0 := kc _ _ B0 hc
  clear hx hg hc
  go_enter Tryz.func42, Tryz.ntmps42
  go_wp2_with fail
  refine (HN.out _).mono ?_
  rintro e w1 ⟨rfl, hb⟩
  have s2 := kc ⟨w.heap.size, 0, none⟩ (.int .i64 0) hb (by first | assumption | simp [go_sem, *])
  have s3 := kc ⟨w.heap.size, 1, none⟩ (.int .i64 0) hb (by first | assumption | simp [go_sem, *])
  have s4 := kf ⟨w.heap.size, 0, none⟩ (.int .i64 0) hb (by first | assumption | simp [go_sem, *]) (by first | assumption | simp [go_sem, *])
  have s5 := kf ⟨w.heap.size, 1, none⟩ (.int .i64 0) hb (by first | assumption | simp [go_sem, *]) (by first | assumption | simp [go_sem, *])
  have hB := hideR (beyond B0 hb)
  clear hb B0 c0
  go_wp2_with fail
  refine bodyPost_ret (v := trip (t0, t1, t2)) (by simp [results, Tryz.results42, go_sem, *]) rfl ⟨rfl, ?_⟩
  exact set2 hB.out (Nat.le_refl _) _ _
/-- The fractions of numbers on a grid. -/
def gridL (n : Nat) (u : Nat → Int) (g : Int) : Rats := ⟨n, fun k => (newT (u k) g).1, fun k => (newT (u k) g).2.1⟩
def ratCk (L : Rats) (K : Nat) : List Value := (List.range (K * 2)).map (ratJ L)
theorem ratCk_next (L : Rats) (K : Nat) : ratCk L (K + 1) = ratCk L K ++ [.int .i64 (L.n K), .int .i64 (L.d K)] := by
  unfold ratCk
  rw [show (K + 1) * 2 = K * 2 + 1 + 1 by omega, List.range_succ, List.range_succ]
  simp only [List.map_append, List.map_cons, List.map_nil, List.append_assoc, List.cons_append, List.nil_append]
  unfold ratJ
  rw [if_pos (by omega), if_neg (by omega), show K * 2 / 2 = K by omega, show (K * 2 + 1) / 2 = K by omega]
/-- It lies in a row of the call's own. -/
def NewAt (W : World) (base : Nat) (ad : Option Addr) (n cap : Nat) : Prop := ∃ xs, W.ownsRow base 33 2 (.slice ad n cap) n xs
theorem NewAt.mono {W : World} {base base' : Nat} {ad : Option Addr} {n cap : Nat} (h : NewAt W base' ad n cap) (hb : base ≤ base') : NewAt W base ad n cap := by
  obtain ⟨xs, h1, h2⟩ := h
  refine ⟨xs, h1, ?_⟩
  rcases h2 with h2 | ⟨g, c, cur, e, hg, r⟩
  · exact .inl h2
  · exact .inr ⟨g, c, cur, e, Nat.le_trans hb hg, r⟩
theorem own_ratV {W : World} {base n : Nat} {v : Value} {L : Rats} (hq : L.q = n) (h : W.ownsRow base 33 2 v n (ratCk L n)) : ∃ ad cap, v = .slice ad n cap ∧ (ad = none → n = 0 ∧ cap = 0) ∧ RatV W ad L ∧ NewAt W base ad n cap := by
  rcases h.2 with ⟨rfl, hn0⟩ | ⟨g, cap, cur, rfl, hg, h2, h3, h4, h5, h6⟩
  · have this : n = 0 := hn0
    subst this
    exact ⟨none, 0, rfl, fun _ => ⟨rfl, rfl⟩, fun k hk => by omega, _, h⟩
  · refine ⟨_, cap, rfl, fun e => by simp at e, fun k hk => ?_, _, h⟩
    have get : ∀ j, j < n * 2 → (ratCk L n)[j]? = some (ratJ L j) := fun j hj => by unfold ratCk; rw [List.getElem?_map, List.getElem?_range hj]; rfl
    have h0 := World.ownsRow.cells h (g := g) rfl (k * 2) _ (get (k * 2) (by omega))
    have h1 := World.ownsRow.cells h (g := g) rfl (k * 2 + 1) _ (get (k * 2 + 1) (by omega))
    rw [Addr.add_lit] at h0 h1
    unfold ratJ at h0 h1
    rw [if_pos (by omega), show k * 2 / 2 = k by omega] at h0
    rw [if_neg (by omega), show (k * 2 + 1) / 2 = k by omega] at h1
    exact ⟨g, 0, rfl, h0, by rw [Nat.add_assoc]; exact h1⟩
theorem two_news (W : World) (x y : Value) (T : TypeId) (d : Addr) (e : some (⟨W.heap.size, 0, none⟩ : Addr) = some d) (j : Nat) (u : Value) (h : [x, y][j]? = some u) : (W.alloc (.cells #[x, y] T)).cell? (d.add j) = some u := by
  injection e with e
  subst e
  rw [Addr.add_lit]
  match j, h with
  | 0, h => simpa [go_sem] using h
  | 1, h => simpa [go_sem] using h
  | j + 2, h => simp at h
theorem own_ge {W : World} {base : Nat} {t : TypeId} {size n : Nat} {v : Value} {xs : List Value} (h : W.ownsRow base t size v n xs) (k : Nat) (hk : v.ownBlock = some k) : base ≤ k := (h.lt k hk).1
set_option maxHeartbeats 2000000 in
theorem gather_any (gu off n cap Bg : Nat) (u : Nat → Int) (g : Int) (w : World) (hn : n ≤ 8) (hu : ∀ k, k < n → w.cell? ⟨gu, off + k, none⟩ = some (.int .i64 (u k))) (hI : ∀ k, k < n → I64 (u k)) (hg : I64 g) (hc : w.cell? ⟨Bg, 0, none⟩ = some (.int .i64 g)) (h0 : ∀ k, k < n → (newT (u k) g).2.2 = 0) :
    Calls Tryz.prog 40 #[.slice (some ⟨gu, off, none⟩) n cap, .func (.func 42) #[] #[.pointer (some ⟨Bg, 0, none⟩)]] w fun e w' => (∃ ad cap', e = .returned (.tuple #[.slice ad n cap', .int .i64 0]) ∧ (ad = none → n = 0 ∧ cap' = 0) ∧ RatV w' ad (gridL n u g) ∧ NewAt w' w.heap.size ad n cap') ∧ Below w.heap.size w w' := by
  obtain ⟨i0, hi, hz0, hz1, hz2⟩ := info_parts info_rat
  have HU := hideR hu
  have HI := hideR hI
  have HG := hideR hg
  have HC := hideR hc
  have H0 := hideR h0
  clear hu hI hg hc h0
  go_enter Tryz.func40, Tryz.ntmps40
  go_wp2_with fail
  go_loopw [6, 13] (fun l s wr => ∃ (K : Nat) (v : Value), K ≤ n ∧ l = v ∧ s = .int .i64 (K : Int) ∧ Hid (wr.ownsRow w.heap.size 33 2 v K (ratCk (gridL n u g) K)) ∧ Hid (Below w.heap.size w wr)) (fun _ s _ => n - (intOf s).toNat)
  case atStart => exact ⟨0, _, Nat.zero_le _, rfl, rfl, World.ownsRow_nil _ _ _ _, Below.refl _ _⟩
  case round =>
    obtain ⟨K, v, hK, hv, rfl, O, B⟩ := hrel
    replace hv := hv.symm
    subst hv
    by_cases ck : K < n
    · have c0 := kc _ _ B.out (HU.out K ck)
      have k0 : (K : Int) < (n : Int) := by omega
      have HL := hideR (fun w' (h : Below w.heap.size w w') => least1_any (u K) g Bg w' (HI.out K ck) HG.out (kc _ _ h HC.out))
      have e0 := H0.out K ck
      have RN : Hid (ratCk (gridL n u g) (K + 1) = ratCk (gridL n u g) K ++ [.int .i64 (newT (u K) g).1, .int .i64 (newT (u K) g).2.1]) := ratCk_next _ K
      generalize newT (u K) g = t at *
      obtain ⟨t0, t1, t2⟩ := t
      simp only at e0
      subst e0
      generalize u K = x at *
      go_wp2_with fail
      refine (HL.out _ B.out).mono ?_
      rintro e w1 ⟨rfl, hb⟩
      have O1 : w1.ownsRow w.heap.size 33 2 v K (ratCk (gridL n u g) K) := World.ownsRow.kept O.out (grown_below hb (Nat.le_refl _)) (by cases v.ownBlock <;> simp)
      have B1 := hideR (beyond B.out hb)
      clear hb HL c0
      go_wp2_with (at_builtin; refine wp_app_any _ rfl _ _ 22 rfl w.heap.size 33 i0 (.agg #[.int .i64 0, .int .i64 0]) 2 16 Tryz.underlying22 hi hz0 hz1 hz2 rfl (by decide) _ K _ rfl ((O1.alloc _).alloc _) _ 1 1 [.int .i64 t0, .int .i64 t1] rfl (fun e => by cases e) rfl (fun d e j u h => two_news _ _ _ _ d (by rw [← e]; simp) j u h) (by simp [Value.oneCell']) (by unfold maxLen; omega) (by omega) (by have := B1.out.size; simp; omega) ?_; intro v' w2 hown hgrow)
      have B2 : Hid (Below w.heap.size w w2) := by
        have h2 := beyond B1.out (two w1 (.cells #[.int .i64 t0, .int .i64 t1] 33) (.cells #[.int .i64 t0, .int .i64 t1] 33))
        rcases hgrow with e | hg
        · rw [e]; exact h2
        · exact h2.grown hg h2.size (fun k hk => own_ge O1 k hk)
      have O2 : Hid (w2.ownsRow w.heap.size 33 2 v' (K + 1) (ratCk (gridL n u g) (K + 1))) := by
        show w2.ownsRow _ _ _ _ _ _
        rw [RN.out]
        exact hown
      clear hown hgrow O1 B1 O B RN
      go_wp2_with fail
      go_roundw
      case rel => exact ⟨K + 1, v', by omega, rfl, by go_num, O2, B2⟩
      case measure => simp [intOf]; omega
    · have eK : K = n := by omega
      have k0 : ¬ (K : Int) < (n : Int) := by omega
      have O2 : Hid (wr.ownsRow w.heap.size 33 2 v n (ratCk (gridL n u g) n)) := by
        have e := O.out
        rw [eK] at e
        exact e
      obtain ⟨ad, cap', rfl, h1, h2, h3⟩ := own_ratV (L := gridL n u g) rfl O2.out
      have HH : Hid ((ad = none → n = 0 ∧ cap' = 0) ∧ RatV wr ad (gridL n u g) ∧ NewAt wr w.heap.size ad n cap') := ⟨h1, h2, h3⟩
      clear O O2 eK h1 h2 h3
      go_wp2_with fail
      go_ret2
      exact ⟨⟨ad, cap', rfl, HH.out.1, HH.out.2.1, HH.out.2.2⟩, B.out⟩
theorem emptyP_any (b n : Nat) (c : Row) (w : World) (hn : n ≤ 8) (hz : ZoneAt w b n c) :
    Calls Tryz.prog 38 #[.pointer (some ⟨b, 0, none⟩)] w fun e w' => e = .returned (.bool (decide (c 0 < 1))) ∧ Below w.heap.size w w' := by
  have H := hideR (hollow_any b n c w hn hz)
  generalize decide (c 0 < 1) = q at *
  clear hz
  go_enter Tryz.func38, Tryz.ntmps38
  go_wp2_with fail
  refine H.out.mono ?_
  rintro e w' ⟨rfl, hb⟩
  go_wp2_with fail
  go_ret
  exact ⟨rfl, hb⟩
/-- What the least valuation has, in units. -/
def unitsF (n : Nat) (c : Row) (k : Nat) : Int := gRounds n (pW n c) ((n : Int) + 1) n (fun _ => 0) (k + 1)
set_option maxHeartbeats 2000000 in
theorem leastP_any (b n m : Nat) (c : Row) (w : World) (hn : n ≤ 8) (hm : m = (n + 1) * (n + 1)) (hz : ZoneAt w b n c) (hc : ∀ k, rightB (c k) = true) (h : ¬ c 0 < 1) (h0 : ∀ k, k < n → (newT (unitsF n c k) ((n : Int) + 1)).2.2 = 0) :
    Calls Tryz.prog 18 #[.pointer (some ⟨b, 0, none⟩)] w fun e w' => (∃ ad cap', e = .returned (.tuple #[.slice ad n cap', .int .i64 0]) ∧ (ad = none → n = 0 ∧ cap' = 0) ∧ RatV w' ad (gridL n (unitsF n c) ((n : Int) + 1)) ∧ NewAt w' w.heap.size ad n cap') ∧ Below w.heap.size w w' := by
  have HE := hideR (emptyP_any b n c w hn hz)
  rw [decide_eq_false h] at HE
  obtain ⟨N, hN⟩ : ∃ N, N = n + 1 := ⟨_, rfl⟩
  obtain ⟨g, hg⟩ : ∃ g : Int, g = (n : Int) + 1 := ⟨_, rfl⟩
  have ws : wrap64 ((n : Int) + 1) = g := by rw [hg]; unfold wrap64; omega
  have HD := hideR (fun W (hb : Below w.heap.size w W) => dim_any b n c W (hz.past hb))
  have HL := hideR (fun W (hb : Below w.heap.size w W) => callsIn_wide.1 (least_in b n m N c W g hN hn hm (hz.past hb) hc hg))
  have hU : Hid (∀ k, gRounds n (pW n c) g n (fun _ => 0) (k + 1) = unitsF n c k) := fun k => by rw [hg]; rfl
  have hI : Hid (∀ k, k < n → I64 (unitsF n c k)) := fun k hk => by
    have hb := rounds_bd (n := n) (c := c) hm hc (show 1 ≤ g by omega) (show g ≤ 9 by omega) n (k + 1)
    rw [hU.out k] at hb
    have hm8 : m ≤ 81 := by rw [hm]; exact Nat.mul_le_mul (show n + 1 ≤ 9 by omega) (show n + 1 ≤ 9 by omega)
    have e1 : (n : Int) * ((m : Int) * 2415919105) ≤ 8 * (81 * 2415919105) := Int.mul_le_mul (by omega) (by omega) (by omega) (by omega)
    exact ⟨by omega, by omega⟩
  have h0' : Hid (∀ k, k < n → (newT (unitsF n c k) g).2.2 = 0) := fun k hk => by rw [hg]; exact h0 k hk
  rw [← hg]
  have hgI : Hid (I64 g) := ⟨by omega, by omega⟩
  have HN := hideR hN
  have HNn := hideR hn
  clear hz h h0 hg hm hN hn
  go_enter Tryz.func18, Tryz.ntmps18
  go_wp2_with fail
  refine HE.out.mono ?_
  rintro e w1 ⟨rfl, hb⟩
  have HB := hideR hb
  have HD1 := hideR (HD.out w1 hb)
  clear hb HE HD
  go_wp2_with fail
  refine HD1.out.mono ?_
  rintro e w2 ⟨rfl, e1⟩
  obtain rfl := e1.symm
  clear e1 HD1
  have bx : (w1.alloc (.cells #[.int .i64 g] 73)).cell? ⟨w1.heap.size, 0, none⟩ = some (.int .i64 g) := by simp [go_sem]
  have B2 := beyond HB.out (single w1 (.cells #[.int .i64 g] 73))
  go_wp2_with fail
  have HL2 := hideR (HL.out _ B2)
  generalize w1.alloc (.cells #[.int .i64 g] 73) = W at *
  refine HL2.out.mono ?_
  rintro e w3 ⟨⟨gu, rfl, g0, hcell⟩, hb⟩
  have HC : Hid (∀ k, k < n → w3.cell? ⟨gu, k + 1, none⟩ = some (.int .i64 (unitsF n c k))) := fun k hk => by
    have h := hcell (k + 1) (by omega)
    rw [hU.out k] at h
    exact h
  have bx3 := kc _ _ hb bx
  have B3 := hideR (beyond B2 hb)
  clear hcell hb bx B2 HL HL2 HB hU
  by_cases c1 : N = 1
  · have n0 : n = 0 := by have := HN.out; omega
    have HGa := hideR (gather_any gu 0 n 0 w1.heap.size (unitsF n c) g w3 HNn.out (fun k hk => by omega) hI.out hgI.out bx3 h0'.out)
    subst c1
    subst n0
    go_wp2_with fail
    refine HGa.out.mono ?_
    rintro e w4 ⟨⟨ad, cap', rfl, h1, h2, h3⟩, hb⟩
    have HH : Hid ((ad = none → cap' = 0) ∧ RatV w4 ad (gridL 0 (unitsF 0 c) g) ∧ NewAt w4 w.heap.size ad 0 cap') := ⟨fun e => (h1 e).2, h2, h3.mono B3.out.size⟩
    have B4 := hideR (beyond B3.out hb)
    clear h1 h2 h3 hb HGa
    go_wp2_with fail
    go_ret2
    exact ⟨⟨ad, cap', rfl, HH.out.1, HH.out.2.1, HH.out.2.2⟩, B4.out⟩
  · have n1 : (1 : Int) ≤ (N : Int) := by have := HN.out; omega
    have n2 : N - 1 = n := by have := HN.out; omega
    have n3 : 1 ≤ N := by omega
    have HGa := hideR (gather_any gu 1 n n w1.heap.size (unitsF n c) g w3 HNn.out (fun k hk => by rw [Nat.add_comm]; exact HC.out k hk) hI.out hgI.out bx3 h0'.out)
    have n9 : N ≤ 9 := by have := HN.out; have := HNn.out; omega
    go_wp2_with fail
    refine HGa.out.mono ?_
    rintro e w4 ⟨⟨ad, cap', rfl, h1, h2, h3⟩, hb⟩
    have HH : Hid ((ad = none → n = 0 ∧ cap' = 0) ∧ RatV w4 ad (gridL n (unitsF n c) g) ∧ NewAt w4 w.heap.size ad n cap') := ⟨h1, h2, h3.mono B3.out.size⟩
    have B4 := hideR (beyond B3.out hb)
    clear h1 h2 h3 hb HGa
    go_wp2_with fail
    go_ret2
    exact ⟨⟨ad, cap', rfl, HH.out.1, HH.out.2.1, HH.out.2.2⟩, B4.out⟩
end Go.Proofs.YteifpplemohdcaaGreatDoor

/-
  A valuation's text, and what a text reads as.
-/
namespace Go.Proofs.YteifpplemohdcaaGreatDoor
open Go.RowKit Go.Shelf
set_option linter.unusedVariables false
/-- The texts of the first fractions. -/
def txtL (L : Rats) (K : Nat) : List (List UInt8) := (List.range K).map fun k => printR (L.n k) (L.d k)
theorem txtL_next (L : Rats) (K : Nat) : txtL L (K + 1) = txtL L K ++ [printR (L.n K) (L.d K)] := by simp [txtL, List.range_succ]
theorem txtL_len (L : Rats) (K : Nat) : (txtL L K).length = K := by simp [txtL]
/-- The text of a valuation. -/
def prtL (L : Rats) : List UInt8 := if rightL L = true then Lib.join (txtL L L.q) [32] else []
/-- What pieces read as. -/
def ratsOf (ps : List (List UInt8)) : Rats := ⟨ps.length, fun k => (parseT (ps.getD k [])).1, fun k => (parseT (ps.getD k [])).2.1⟩
theorem ratsOf_I (ps : List (List UInt8)) : RatI (ratsOf ps) := fun k _ => parse_i64 _
def allP (ps : List (List UInt8)) (K : Nat) : Prop := ∀ k, k < K → (parseT (ps.getD k [])).2.2 = 0
/-- Does a text read as a valuation? -/
def GoodT (l : List UInt8) : Prop := allP (pcs l) (pcs l).length ∧ rightL (ratsOf (pcs l)) = true
theorem okL_congr {L M : Rats} : ∀ {K : Nat}, (∀ k, k < K → L.n k = M.n k ∧ L.d k = M.d k) → okL L K = okL M K
  | 0, _ => rfl
  | K + 1, h => by
    simp only [okL]
    rw [okL_congr (K := K) fun k hk => h k (by omega), (h K (by omega)).1, (h K (by omega)).2]
theorem rightL_congr {L M : Rats} (hq : L.q = M.q) (h : ∀ k, k < L.q → L.n k = M.n k ∧ L.d k = M.d k) : rightL L = rightL M := by
  unfold rightL
  rw [okL_congr h, hq]
theorem parse_err (l : List UInt8) (h : (parseT l).2.2 ≠ 0) : (parseT l).2.2 = 7 := by
  rcases parse_says l with e | e
  · exact absurd e.1 h
  · rw [e]
theorem good_txt {ps : List (List UInt8)} (h : allP ps ps.length) : txtL (ratsOf ps) ps.length = ps := by
  apply List.ext_getElem
  · simp [txtL]
  · intro k h1 h2
    simp only [txtL, List.getElem_map, List.getElem_range, ratsOf]
    have e := h k h2
    have g : ps.getD k [] = ps[k] := by simp [List.getD, h2]
    rw [g] at e ⊢
    rcases parse_says ps[k] with x | x
    · exact x.2
    · rw [x] at e
      exact absurd e (by decide)
theorem good_print {l : List UInt8} (h : GoodT l) : prtL (ratsOf (pcs l)) = l := by
  unfold prtL
  rw [if_pos h.2]
  show Lib.join (txtL _ (pcs l).length) _ = _
  rw [good_txt h.1, pcs_join]
theorem itoa_blank (n : Int) : ∀ c ∈ Lib.itoa n, c ≠ 32 := by
  intro c hc e
  subst e
  unfold Lib.itoa at hc
  split at hc
  · rcases List.mem_cons.1 hc with h | h
    · exact absurd h (by decide)
    · have := digits_all _ _ h
      exact absurd this.1 (by decide)
  · have := digits_all _ _ hc
    exact absurd this.1 (by decide)
theorem print_blank (n d : Int) : ∀ c ∈ printR n d, c ≠ 32 := by
  intro c hc
  unfold printR at hc
  split at hc
  · split at hc
    · exact itoa_blank n c hc
    · simp only [List.mem_append, List.mem_singleton] at hc
      rcases hc with (hc | hc) | hc
      · exact itoa_blank n c hc
      · subst hc; decide
      · exact itoa_blank d c hc
  · cases hc
theorem okR_right {n d : Int} (h : okR n d = true) : rightR n d = true := by
  unfold okR at h
  simp only [Bool.and_eq_true] at h
  exact h.1
theorem right_at {L : Rats} (h : rightL L = true) : L.q ≤ 8 ∧ ∀ k, k < L.q → rightR (L.n k) (L.d k) = true := by
  unfold rightL at h
  simp only [Bool.and_eq_true, decide_eq_true_eq] at h
  exact ⟨h.1, fun k hk => okR_right (okL_at h.2 k hk)⟩
/-- A valuation's text reads as it. -/
theorem print_good {L : Rats} (hI : RatI L) (h : rightL L = true) (h0 : 0 < L.q) : GoodT (prtL L) ∧ pcs (prtL L) = txtL L L.q ∧ ∀ k, k < L.q → (ratsOf (pcs (prtL L))).n k = L.n k ∧ (ratsOf (pcs (prtL L))).d k = L.d k := by
  have hr := right_at h
  have e : pcs (prtL L) = txtL L L.q := by
    unfold prtL
    rw [if_pos h]
    refine pcs_texts ?_ ?_
    · intro e
      have := txtL_len L L.q
      rw [e] at this
      simp at this
      omega
    · intro t ht c hc
      unfold txtL at ht
      obtain ⟨k, _, rfl⟩ := List.mem_map.1 ht
      exact print_blank _ _ c hc
  have get : ∀ k, k < L.q → parseT ((pcs (prtL L)).getD k []) = (L.n k, L.d k, 0) := fun k hk => by
    rw [e]
    have g : (txtL L L.q).getD k [] = printR (L.n k) (L.d k) := by simp [txtL, List.getD, hk]
    rw [g]
    exact parse_back _ _ (hI k hk).1 (hI k hk).2 (hr.2 k hk)
  have eqs : ∀ k, k < L.q → (ratsOf (pcs (prtL L))).n k = L.n k ∧ (ratsOf (pcs (prtL L))).d k = L.d k := fun k hk => by
    have e := get k hk
    exact ⟨by show (parseT _).1 = _; rw [e], by show (parseT _).2.1 = _; rw [e]⟩
  have el : (pcs (prtL L)).length = L.q := by rw [e, txtL_len]
  refine ⟨⟨fun k hk => by rw [get k (by omega)], ?_⟩, e, eqs⟩
  rw [← h]
  exact rightL_congr el fun k hk => eqs k (by rw [← el]; exact hk)
theorem prt_len {n d : Int} (hn : I64 n) (hd : I64 d) : (printR n d).length ≤ 43 := by
  have l1 : ∀ v, I64 v → (Lib.itoa v).length ≤ 21 := fun v h => Lib.itoa_length_le v h.1 h.2
  unfold printR
  split
  · split
    · have := l1 n hn; omega
    · have := l1 n hn
      have := l1 d hd
      simp
      omega
  · simp
end Go.Proofs.YteifpplemohdcaaGreatDoor
