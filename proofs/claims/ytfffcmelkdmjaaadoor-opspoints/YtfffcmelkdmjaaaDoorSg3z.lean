/-
  Guards by the program and by the document.
-/
import Derived.Test.YtfffcmelkdmjaaaDoorSg2z
namespace Go.Proofs.YtfffcmelkdmjaaaDoor
open Go.RowKit
set_option linter.unusedVariables false
set_option maxRecDepth 100000
theorem ops_mono {w' : World} {B B' n : Nat} {e : Ending} {M : Mat} (h : OpsOut w' B n e M) (hB : B' ≤ B) : OpsOut w' B' n e M := by
  rcases h with h | ⟨h1, h2⟩
  · exact .inl h
  · refine .inr ⟨h1, ?_⟩
    generalize zoneR n (tgAll n (rowsL n M (n + 1)) ((n + 1) * (n + 1)) (startR n (n + 1) 0)) = o at *
    cases o with
    | none => exact h2
    | some c => obtain ⟨b, k1, k2⟩ := h2; exact ⟨b, Nat.le_trans hB k1, k2⟩
theorem con_mono {w' : World} {B B' n : Nat} {e : Ending} {L : Lims} {M : Mat} (h : ConOut w' B n e L M) (hB : B' ≤ B) : ConOut w' B' n e L M := by
  rcases h with h | h | ⟨h1, h2, h3⟩
  · exact .inl h
  · exact .inr (.inl h)
  · exact .inr (.inr ⟨h1, h2, ops_mono h3 hB⟩)
/-- Constrain, of a row of limits of the call's own. -/
theorem con_own {b n : Nat} {u : Value} {c : Row} {T : List Tri3} {w : World} {base : Nat} {E : TypeId} (h : n ≤ 8) (hz : ZoneAt w b n c) (hc : C32 c) (ho : w.ownsRow base E 3 u T.length (tc T)) (hi : ∀ k, k < (limsOf T).q → -2147483648 ≤ (limsOf T).b k ∧ (limsOf T).b k ≤ 2147483647) (hq : T.length ≤ 9223372036854775807) :
    Calls Tryd.prog 27 #[.pointer (some ⟨b, 0, none⟩), u] w fun e w' => ConOut w' w.heap.size n e (limsOf T) (oR n c ((n + 1) * (n + 1))) ∧ Below w.heap.size w w' := by
  obtain ⟨ad, cap, rfl, hV, h0 | ⟨g, rfl, hg⟩⟩ := own_lims ho
  · rw [h0]
    exact con_zero b n cap ad c (limsOf T) w h hz hc h0
  · exact con_main b n g 0 cap c (limsOf T) w h hz hc hV.row hg hi hq
theorem con_form {w' : World} {B n : Nat} {e : Ending} {L : Lims} {M : Mat} (h : ConOut w' B n e L M) : ∃ p k, e = .returned (.tuple #[.pointer p, .int .i64 k]) := by
  rcases h with ⟨-, h⟩ | ⟨-, -, h⟩ | ⟨-, -, h⟩
  · exact ⟨_, _, h⟩
  · exact ⟨_, _, h⟩
  · exact h.form
/-- What Guards tells: an error of a guard, or what Constrain tells. -/
def GuaOut (w' : World) (B n : Nat) (e : Ending) (L : Guas) (M : Mat) : Prop := (¬ gErr L L.q = 0 ∧ e = errOf (gErr L L.q)) ∨ (gErr L L.q = 0 ∧ ConOut w' B n e (limsOf (gLs L L.q)) M)
set_option maxHeartbeats 8000000 in
theorem guards_main (b n q cap : Nat) (ad : Option Addr) (c : Row) (L : Guas) (w : World) (h : n ≤ 8) (hz : ZoneAt w b n c) (hc : C32 c) (hL : L.q = q) (hV : GuaV w ad L) (hk : ∀ k, k < L.q → 0 ≤ L.k k ∧ L.k k < 256) (hq : q * 32 ≤ 140737488355328) :
    Calls Tryd.prog 31 #[.pointer (some ⟨b, 0, none⟩), .slice ad q cap] w fun e w' => GuaOut w' w.heap.size n e L (oR n c ((n + 1) * (n + 1))) ∧ Below w.heap.size w w' := by
  have HV : Hid (∀ w', Below w.heap.size w w' → ∀ k, k < q → ∃ b off, ad = some ⟨b, off, none⟩ ∧ w'.cell? ⟨b, off + k * 4, none⟩ = some (.int .i64 (L.a k)) ∧ w'.cell? ⟨b, off + k * 4 + 1, none⟩ = some (.int .i64 (L.o k)) ∧ w'.cell? ⟨b, off + k * 4 + 2, none⟩ = some (.int .u8 (L.k k)) ∧ w'.cell? ⟨b, off + k * 4 + 3, none⟩ = some (.int .i64 (L.n k))) := fun w' hb k hk => hV.past hb k (by omega)
  have HP : Hid (∀ k w', k < q → _) := fun k w' hk' => plim_any (L.a k) (L.o k) (L.k k) (L.n k) w' (hk k (by omega)).1 (hk k (by omega)).2
  have HC : Hid (∀ u w', Below w.heap.size w w' → gErr L q = 0 → w'.ownsRow w.heap.size 83 3 u (gLs L q).length (tc (gLs L q)) → Calls Tryd.prog 27 #[.pointer (some ⟨b, 0, none⟩), u] w' fun e w'' => (∃ p k, e = .returned (.tuple #[.pointer p, .int .i64 k]) ∧ Hid (GuaOut w'' w.heap.size n e L (oR n c ((n + 1) * (n + 1))))) ∧ Hid (Below w'.heap.size w' w'')) := fun u w' hb he ho => by
    refine (con_own h (hz.past hb) hc ho (lims_small he) (by have := gLs_len L q; omega)).mono fun e w'' ⟨h1, h2⟩ => ?_
    obtain ⟨p, k, e'⟩ := con_form h1
    exact ⟨⟨p, k, e', .inr ⟨by rw [hL]; exact he, by rw [hL]; exact con_mono h1 hb.size⟩⟩, h2⟩
  have HE : Hid (∀ w' k, k ≤ q → gErr L k ≠ 0 → GuaOut w' w.heap.size n (errOf (gErr L k)) L (oR n c ((n + 1) * (n + 1)))) := fun w' k hk he => by
    have := gErr_stay he q hk
    exact .inl ⟨by rw [hL, this]; exact he, by rw [hL, this]⟩
  have LE := hideD (gLs_len L)
  have NX : Hid (∀ k, gLs L (k + 1) = gLs L k ++ gT (L.a k) (L.o k) (L.k k) (L.n k)) := fun k => rfl
  have NE : Hid (∀ k, gErr L k = 0 → gErr L (k + 1) = gE (L.a k) (L.o k) (L.k k) (L.n k)) := fun k h => by show (if gErr L k = 0 then _ else _) = _; rw [if_pos h]
  obtain ⟨i0, hi0, hz0, hz1, hz2⟩ := info3 info_lim
  generalize oR n c ((n + 1) * (n + 1)) = M at *
  have q1 : (q : Int) ≤ 4398046511104 := by omega
  clear hz hc hV hk
  go_enter Tryd.func31, Tryd.ntmps31
  go_wp2_with fail
  go_loopw [6, 15] (fun u s wr => ∃ (K : Nat), K ≤ q ∧ s = .int .i64 (K : Int) ∧ Hid (gErr L K = 0) ∧ Hid (wr.ownsRow w.heap.size 83 3 u (gLs L K).length (tc (gLs L K))) ∧ Hid (Below w.heap.size w wr)) (fun _ s _ => q - (intOf s).toNat)
  case atStart => exact ⟨0, by omega, rfl, rfl, World.ownsRow_nil _ _ _ _, Below.refl _ _⟩
  case round =>
    obtain ⟨K, hK, rfl, hE, hown, hB⟩ := hrel
    by_cases ck : K < q
    · have k0 : (0 : Int) ≤ (K : Int) := by omega
      have k1 : (K : Int) < (q : Int) := by omega
      obtain ⟨gb, off, rfl, c0, c1, c2, c3⟩ := HV.out wr hB.out K ck
      have HPK := hideD (fun w' => HP.out K w' ck)
      have nx := hideD (NX.out K)
      have ne := hideD (NE.out K hE.out)
      have le := LE.out K
      have lt := gT_len (L.a K) (L.o K) (L.k K) (L.n K)
      have HEK := hideD (fun w' => HE.out w' (K + 1) (by omega))
      rw [ne.out] at HEK
      clear HV HP HE NX NE LE HC hE
      generalize L.a K = xa at *
      generalize L.o K = xo at *
      generalize L.k K = xk at *
      generalize L.n K = xn at *
      generalize gLs L K = T at *
      go_upto_region 7 with (fail)
      have d0 : (wr.alloc (.cells #[.int .i64 xa, .int .i64 xo, .int .u8 xk, .int .i64 xn] 50)).cell? ⟨wr.heap.size, 0, none⟩ = some (.int .i64 xa) := by simp [go_sem]
      have d1 : (wr.alloc (.cells #[.int .i64 xa, .int .i64 xo, .int .u8 xk, .int .i64 xn] 50)).cell? ⟨wr.heap.size, 1, none⟩ = some (.int .i64 xo) := by simp [go_sem]
      have d2 : (wr.alloc (.cells #[.int .i64 xa, .int .i64 xo, .int .u8 xk, .int .i64 xn] 50)).cell? ⟨wr.heap.size, 2, none⟩ = some (.int .u8 xk) := by simp [go_sem]
      have d3 : (wr.alloc (.cells #[.int .i64 xa, .int .i64 xo, .int .u8 xk, .int .i64 xn] 50)).cell? ⟨wr.heap.size, 3, none⟩ = some (.int .i64 xn) := by simp [go_sem]
      have b1 := hideD (below_one wr (.cells #[.int .i64 xa, .int .i64 xo, .int .u8 xk, .int .i64 xn] 50))
      generalize wr.alloc (.cells #[.int .i64 xa, .int .i64 xo, .int .u8 xk, .int .i64 xn] 50) = W at *
      clear c0 c1 c2 c3
      go_wp2_with fail
      refine (HPK.out _).mono ?_
      rintro e w2 ⟨hO, hb2⟩
      have B2 := hideD (beyondD (beyondD hB.out b1.out) hb2)
      have own2 := hideD (own_past (own_past hown.out b1.out) hb2)
      clear hown hB b1 hb2 d0 d1 d2 d3 HPK
      rcases hO with ⟨e1, rfl⟩ | ⟨e1, g, m, cp, rfl, gg, gl, rfl, hc⟩
      · have FIN := hideD (fun w' => HEK.out w' (by simpa using e1))
        generalize gE xa xo xk xn = E at *
        clear HEK
        go_wp2_with fail
        exact bodyPost_ret (v := .tuple #[.pointer none, .int .i64 E]) (by simp [results, Tryd.results31, go_sem]) rfl ⟨FIN.out _, B2.out⟩
      · have en := hideD (ne.out.trans e1)
        have HN : Hid (∀ j u, (tc (gT xa xo xk xn))[j]? = some u → w2.cell? ((⟨g, 0, none⟩ : Addr).add j) = some u) := by
          intro j u hj
          rw [Addr.add_lit, Nat.zero_add]
          exact hc j u hj
        have h1 := hideD (tc_one (gT xa xo xk xn))
        have hl := tc_len (gT xa xo xk xn)
        generalize gT xa xo xk xn = U at *
        have HL := hideD hl
        have hsz := B2.out.size
        clear hl hc e1 ne HEK gg gl
        generalize hn1 : T.length = n1 at *
        generalize hn2 : U.length = n2 at *
        have N1 := hideD hn1
        have N2 := hideD hn2
        clear hn1 hn2
        go_wp2_with (at_builtin; refine wpList_append_own_wide _ rfl _ _ 35 rfl w.heap.size 83 i0 (.agg #[.int .i64 0, .int .i64 0, .int .i32 0]) 3 24 Tryd.underlying35 hi0 hz0 hz1 hz2 rfl (by decide) _ n1 (tc T) rfl own2.out ⟨g, 0, none⟩ n2 cp (tc U) rfl HL.out HN.out h1.out (by unfold maxLen; omega) (by omega) (by omega) ?_; intro v' w5 hown' hgrow hnil)
        have hb5 : Below w.heap.size w w5 := B2.out.grown hgrow (by omega) (by intro q hq; exact (own2.out.lt q hq).1)
        have B5 := hideD hb5
        have own5 : Hid (w5.ownsRow w.heap.size 83 3 v' (gLs L (K + 1)).length (tc (gLs L (K + 1)))) := by
          show w5.ownsRow _ _ _ _ _ _
          rw [nx.out, tc_app, List.length_append, N1.out, N2.out]
          exact hown'
        clear hown' hgrow hnil hb5 own2 HN HL h1 nx
        exact ⟨⟨K + 1, by omega, by go_num, en, own5, B5⟩, by simp [intOf]; omega⟩
    · have k1 : ¬ ((K : Int) < (q : Int)) := by omega
      obtain rfl : K = q := by omega
      have HCK := hideD (HC.out _ wr hB.out hE.out hown.out)
      clear hown HV HP HE NX NE LE HC
      go_wp2_with fail
      refine HCK.out.mono ?_
      rintro e w4 ⟨⟨p, kk, rfl, ho⟩, hb⟩
      go_wp2_with fail
      exact bodyPost_ret (v := .tuple #[.pointer p, .int .i64 kk]) (by simp [results, Tryd.results31, go_sem]) rfl ⟨ho.out, beyondD hB.out hb.out⟩
theorem rguards_nil (v : Value) (w : World) : Calls Tryd.prog 32 #[.pointer none, v] w fun e w' => e = errOf 1 ∧ w' = w := by
  go_enter Tryd.func32, Tryd.ntmps32
  go_wp2_with fail
  exact bodyPost_ret (v := .tuple #[.pointer none, .int .i64 1]) (by simp [results, Tryd.results32, go_sem]) rfl ⟨rfl, rfl⟩
/-- What the document tells of guards. -/
def RguaOut (w' : World) (n m : Nat) (e : Ending) (L : Guas) (o : Option Row) : Prop := (¬ gErr L L.q = 0 ∧ e = errOf (gErr L L.q)) ∨ (gErr L L.q = 0 ∧ RconOut w' n m e (limsOf (gLs L L.q)) o)
theorem rcon_form {w' : World} {n m : Nat} {e : Ending} {L : Lims} {o : Option Row} (h : RconOut w' n m e L o) : ∃ p k, e = .returned (.tuple #[.pointer p, .int .i64 k]) := by
  rcases h with ⟨-, h⟩ | ⟨-, -, h⟩ | ⟨-, -, B, h⟩
  · exact ⟨_, _, h⟩
  · exact ⟨_, _, h⟩
  · cases o with
    | none => exact ⟨_, _, h⟩
    | some c => obtain ⟨b, h, -⟩ := h; exact ⟨_, _, h⟩
set_option maxHeartbeats 8000000 in
theorem rguards_main (r n m B q cap : Nat) (ad : Option Addr) (c : Row) (o : Option Row) (L : Guas) (w : World) (h : n ≤ 8) (hm : m = (n + 1) * (n + 1)) (hr : RZone w B r n (listOf c m)) (hL : L.q = q) (hV : GuaV w ad L) (hk : ∀ k, k < L.q → 0 ≤ L.k k ∧ L.k k < 256) (hq : q * 32 ≤ 140737488355328)
    (hZ : c = (fun _ => 0) ∧ o = some (fun _ => 0) ∨ ∃ p, FullC n m p c ∧ C32 c ∧ (bndA n (limsOf (gLs L q)) (limsOf (gLs L q)).q = true → rgtA (limsOf (gLs L q)) (limsOf (gLs L q)).q = true → Ok n (rcon (limsOf (gLs L q)) (limsOf (gLs L q)).q (rowMat n (listOf c m))) ∧ (∀ j, j ≤ n → rcon (limsOf (gLs L q)) (limsOf (gLs L q)).q (rowMat n (listOf c m)) 0 j ≤ 1) ∧ zoneR n (rcon (limsOf (gLs L q)) (limsOf (gLs L q)).q (rowMat n (listOf c m))) = o)) :
    Calls Tryd.prog 32 #[.pointer (some ⟨r, 0, none⟩), .slice ad q cap] w fun e w' => RguaOut w' n m e L o ∧ Below w.heap.size w w' := by
  have HV : Hid (∀ w', Below w.heap.size w w' → ∀ k, k < q → ∃ b off, ad = some ⟨b, off, none⟩ ∧ w'.cell? ⟨b, off + k * 4, none⟩ = some (.int .i64 (L.a k)) ∧ w'.cell? ⟨b, off + k * 4 + 1, none⟩ = some (.int .i64 (L.o k)) ∧ w'.cell? ⟨b, off + k * 4 + 2, none⟩ = some (.int .u8 (L.k k)) ∧ w'.cell? ⟨b, off + k * 4 + 3, none⟩ = some (.int .i64 (L.n k))) := fun w' hb k hk => hV.past hb k (by omega)
  have HP : Hid (∀ k w', k < q → _) := fun k w' hk' => rlim_any (L.a k) (L.o k) (L.k k) (L.n k) w' (hk k (by omega)).1 (hk k (by omega)).2
  have HC : Hid (∀ u w', Below w.heap.size w w' → gErr L q = 0 → w'.ownsRow w.heap.size 83 3 u (gLs L q).length (tc (gLs L q)) → Calls Tryd.prog 28 #[.pointer (some ⟨r, 0, none⟩), u] w' fun e w'' => (∃ p k, e = .returned (.tuple #[.pointer p, .int .i64 k]) ∧ Hid (RguaOut w'' n m e L o)) ∧ Hid (Below w'.heap.size w' w'')) := fun u w' hb he ho => by
    obtain ⟨ad', cap', rfl, hV', -⟩ := own_lims ho
    refine (rcon_any r n m B cap' ad' (limsOf (gLs L q)) c o w' h hm (hr.past hb) hV' (lims_small he) (by have := gLs_len L q; show (gLs L q).length ≤ _; omega) hZ).mono fun e w'' ⟨h1, h2⟩ => ?_
    obtain ⟨p, k, e'⟩ := rcon_form h1
    exact ⟨⟨p, k, e', .inr ⟨by rw [hL]; exact he, by rw [hL]; exact h1⟩⟩, h2⟩
  have HE : Hid (∀ w' k, k ≤ q → gErr L k ≠ 0 → RguaOut w' n m (errOf (gErr L k)) L o) := fun w' k hk he => by
    have := gErr_stay he q hk
    exact .inl ⟨by rw [hL, this]; exact he, by rw [hL, this]⟩
  have LE := hideD (gLs_len L)
  have NX : Hid (∀ k, gLs L (k + 1) = gLs L k ++ gT (L.a k) (L.o k) (L.k k) (L.n k)) := fun k => rfl
  have NE : Hid (∀ k, gErr L k = 0 → gErr L (k + 1) = gE (L.a k) (L.o k) (L.k k) (L.n k)) := fun k h => by show (if gErr L k = 0 then _ else _) = _; rw [if_pos h]
  obtain ⟨i0, hi0, hz0, hz1, hz2⟩ := info3 info_lim
  have q1 : (q : Int) ≤ 4398046511104 := by omega
  clear hr hV hk hZ hm
  go_enter Tryd.func32, Tryd.ntmps32
  go_wp2_with fail
  go_loopw [6, 7] (fun u s wr => ∃ (K : Nat), K ≤ q ∧ s = .int .i64 (K : Int) ∧ Hid (gErr L K = 0) ∧ Hid (wr.ownsRow w.heap.size 83 3 u (gLs L K).length (tc (gLs L K))) ∧ Hid (Below w.heap.size w wr)) (fun _ s _ => q - (intOf s).toNat)
  case atStart => exact ⟨0, by omega, rfl, rfl, World.ownsRow_nil _ _ _ _, Below.refl _ _⟩
  case round =>
    obtain ⟨K, hK, rfl, hE, hown, hB⟩ := hrel
    by_cases ck : K < q
    · have k0 : (0 : Int) ≤ (K : Int) := by omega
      have k1 : (K : Int) < (q : Int) := by omega
      obtain ⟨gb, off, rfl, c0, c1, c2, c3⟩ := HV.out wr hB.out K ck
      have HPK := hideD (fun w' => HP.out K w' ck)
      have nx := hideD (NX.out K)
      have ne := hideD (NE.out K hE.out)
      have le := LE.out K
      have lt := gT_len (L.a K) (L.o K) (L.k K) (L.n K)
      have HEK := hideD (fun w' => HE.out w' (K + 1) (by omega))
      rw [ne.out] at HEK
      clear HV HP HE NX NE LE HC hE
      generalize L.a K = xa at *
      generalize L.o K = xo at *
      generalize L.k K = xk at *
      generalize L.n K = xn at *
      generalize gLs L K = T at *
      go_wp2_with fail
      refine (HPK.out _).mono ?_
      rintro e w2 ⟨hO, hb2⟩
      have B2 := hideD (beyondD hB.out hb2)
      have own2 := hideD (own_past hown.out hb2)
      clear hown hB hb2 c0 c1 c2 c3 HPK
      rcases hO with ⟨e1, rfl⟩ | ⟨e1, g, m, cp, rfl, gg, gl, rfl, hc⟩
      · have FIN := hideD (fun w' => HEK.out w' (by simpa using e1))
        generalize gE xa xo xk xn = E at *
        clear HEK
        go_wp2_with fail
        exact bodyPost_ret (v := .tuple #[.pointer none, .int .i64 E]) (by simp [results, Tryd.results32, go_sem]) rfl ⟨FIN.out _, B2.out⟩
      · have en := hideD (ne.out.trans e1)
        have HN : Hid (∀ j u, (tc (gT xa xo xk xn))[j]? = some u → w2.cell? ((⟨g, 0, none⟩ : Addr).add j) = some u) := by
          intro j u hj
          rw [Addr.add_lit, Nat.zero_add]
          exact hc j u hj
        have h1 := hideD (tc_one (gT xa xo xk xn))
        have hl := tc_len (gT xa xo xk xn)
        generalize gT xa xo xk xn = U at *
        have HL := hideD hl
        have hsz := B2.out.size
        clear hl hc e1 ne HEK gg gl
        generalize hn1 : T.length = n1 at *
        generalize hn2 : U.length = n2 at *
        have N1 := hideD hn1
        have N2 := hideD hn2
        clear hn1 hn2
        go_wp2_with (at_builtin; refine wpList_append_own_wide _ rfl _ _ 35 rfl w.heap.size 83 i0 (.agg #[.int .i64 0, .int .i64 0, .int .i32 0]) 3 24 Tryd.underlying35 hi0 hz0 hz1 hz2 rfl (by decide) _ n1 (tc T) rfl own2.out ⟨g, 0, none⟩ n2 cp (tc U) rfl HL.out HN.out h1.out (by unfold maxLen; omega) (by omega) (by omega) ?_; intro v' w5 hown' hgrow hnil)
        have hb5 : Below w.heap.size w w5 := B2.out.grown hgrow (by omega) (by intro q hq; exact (own2.out.lt q hq).1)
        have B5 := hideD hb5
        have own5 : Hid (w5.ownsRow w.heap.size 83 3 v' (gLs L (K + 1)).length (tc (gLs L (K + 1)))) := by
          show w5.ownsRow _ _ _ _ _ _
          rw [nx.out, tc_app, List.length_append, N1.out, N2.out]
          exact hown'
        clear hown' hgrow hnil hb5 own2 HN HL h1 nx
        exact ⟨⟨K + 1, by omega, by go_num, en, own5, B5⟩, by simp [intOf]; omega⟩
    · have k1 : ¬ ((K : Int) < (q : Int)) := by omega
      obtain rfl : K = q := by omega
      have HCK := hideD (HC.out _ wr hB.out hE.out hown.out)
      clear hown HV HP HE NX NE LE HC
      go_wp2_with fail
      refine HCK.out.mono ?_
      rintro e w4 ⟨⟨p, kk, rfl, ho⟩, hb⟩
      go_wp2_with fail
      exact bodyPost_ret (v := .tuple #[.pointer p, .int .i64 kk]) (by simp [results, Tryd.results32, go_sem]) rfl ⟨ho.out, beyondD hB.out hb.out⟩
end Go.Proofs.YtfffcmelkdmjaaaDoor
