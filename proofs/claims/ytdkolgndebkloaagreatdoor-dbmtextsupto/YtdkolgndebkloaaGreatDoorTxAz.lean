/-
  Texts tell zones apart; both ways of a zone's key; both ways of Of.
-/
import Derived.Test.YtdkolgndebkloaaGreatDoorTx9z
import Derived.Test.YtdkolgndebkloaaGreatDoorZb
import Derived.Test.YtdkolgndebkloaaGreatDoorZm
namespace Go.Proofs.YtdkolgndebkloaaGreatDoor
open Go.RowKit Go.Shelf
set_option linter.unusedVariables false
set_option maxRecDepth 100000
theorem right_at {l : List Int} : ∀ {m : Nat}, allRight l m = true → ∀ {k : Nat}, k < m → rightB (l.getD k 0) = true
  | 0, _, k, hk => by omega
  | m + 1, h, k, hk => by
    simp only [allRight, Bool.and_eq_true] at h
    by_cases q : k = m
    · subst q; exact h.2
    · exact right_at h.1 (by omega)
theorem tgAll_fit {n : Nat} {l : List Int} {r : Mat} (h : Fit n r) : ∀ {m : Nat}, (∀ k, k < m → rightB (l.getD k 0) = true) → Fit n (tgAll n l m r)
  | 0, _ => h
  | m + 1, hr => (tgAll_fit h fun k hk => hr k (by omega)).tg (hr m (by omega))
def BothOut2 (w' : World) (B : Nat) (n : Int) (x : Ending) : Prop :=
  x = .returned (.tuple #[.pointer none, .pointer none, .bool true]) ∨
  ∃ (N : Nat) (c : Row) (b r : Nat), n = N ∧ N ≤ 8 ∧ x = .returned (.tuple #[.pointer (some ⟨b, 0, none⟩), .pointer (some ⟨r, 0, none⟩), .bool true]) ∧ ZoneAt w' b N c ∧ RZone w' B r N (listOf c ((N + 1) * (N + 1))) ∧ ZC N ((N + 1) * (N + 1)) c ∧ C32 c
theorem bothT_any (n : Int) (v : Value) (l : List Int) (w : World) (hS : SliceAt w v l) (hi : ∀ j, j < l.length → -2147483648 ≤ l.getD j 0 ∧ l.getD j 0 ≤ 2147483647) (hby : l.length ≤ 9223372036854775807) :
    Calls Tryz.prog 4 #[.int .i64 n, v] w fun x w' => BothOut2 w' w.heap.size n x ∧ Below w.heap.size w w' := by
  have err : ∀ e, (∀ w', Below w.heap.size w w' → Calls Tryz.prog 17 #[.int .i64 n, v] w' fun x w'' => x = errOf e ∧ Below w'.heap.size w' w'') → (∀ w', Below w.heap.size w w' → Calls Tryz.prog 18 #[.int .i64 n, v] w' fun x w'' => x = errOf e ∧ Below w'.heap.size w' w'') →
      Calls Tryz.prog 4 #[.int .i64 n, v] w fun x w' => BothOut2 w' w.heap.size n x ∧ Below w.heap.size w w' := fun e h1 h2 => (both_err n v e w h1 h2).mono fun x w' ⟨hx, hb⟩ => ⟨.inl hx, hb⟩
  have same : ∀ {f : Nat} {e : Int} (w' : World), Calls Tryz.prog f #[.int .i64 n, v] w' (fun x w'' => x = errOf e ∧ w'' = w') → Calls Tryz.prog f #[.int .i64 n, v] w' (fun x w'' => x = errOf e ∧ Below w'.heap.size w' w'') := fun w' h => h.mono fun x w'' ⟨hx, hw⟩ => ⟨hx, by rw [hw]; exact Below.refl _ _⟩
  by_cases hn : 0 ≤ n ∧ n ≤ 8
  · obtain ⟨N, rfl⟩ := Int.eq_ofNat_of_zero_le hn.1
    have N8 : N ≤ 8 := by omega
    have mp : 0 < (N + 1) * (N + 1) := Nat.mul_pos (by omega) (by omega)
    by_cases hl : l.length = (N + 1) * (N + 1)
    · rcases hS with ⟨ad, c, rfl, rfl⟩ | ⟨cb, off, cap, rfl, hc⟩
      · exfalso
        simp at hl
      · have hcb : cb < w.heap.size := World.block_lt_of_cell? _ _ (hc 0 (by omega))
        have row : ∀ w', Below w.heap.size w w' → RowAt w' cb off l := fun w' hb j hj => (hb.cell (p := ⟨cb, off + j, none⟩) hcb).trans (hc j hj)
        have P := fun w' hb => of_main N cb off cap l w' N8 hl (row w' hb) hi
        have R := fun w' hb => rof_main N cb off cap l w' N8 hl (row w' hb) hi
        cases ha : allRight l l.length
        · refine err 7 (fun w' hb => (P w' hb).mono fun x w'' h => ?_) (fun w' hb => (R w' hb).mono fun x w'' h => ?_)
          · obtain ⟨h1, ⟨-, h2⟩ | ⟨h2, -⟩⟩ := h
            · exact ⟨h2, h1⟩
            · rw [ha] at h2; cases h2
          · obtain ⟨h1, ⟨-, h2⟩ | ⟨h2, -⟩⟩ := h
            · exact ⟨h2, h1⟩
            · rw [ha] at h2; cases h2
        · have os := of_same N l hl (fun j hj => (hi j (by omega)).2)
          cases hz : zoneR N (tgAll N l l.length (startR N (N + 1) 0)) with
          | none =>
            rw [hz] at os
            refine err 10 (fun w' hb => (P w' hb).mono fun x w'' h => ?_) (fun w' hb => (R w' hb).mono fun x w'' h => ?_)
            · obtain ⟨h1, ⟨h2, -⟩ | ⟨-, h2⟩⟩ := h
              · rw [ha] at h2; cases h2
              · rw [hz] at h2; exact ⟨h2, h1⟩
            · obtain ⟨h1, ⟨h2, -⟩ | ⟨-, h2⟩⟩ := h
              · rw [ha] at h2; cases h2
              · rw [os] at h2; exact ⟨h2, h1⟩
          | some c =>
            rw [hz] at os
            refine (both_zone N _ _ c w N8 rfl (fun w' hb => (P w' hb).mono fun x w'' h => ?_) (fun w' hb => (R w' hb).mono fun x w'' h => ?_)).mono ?_
            · obtain ⟨h1, ⟨h2, -⟩ | ⟨-, h2⟩⟩ := h
              · rw [ha] at h2; cases h2
              · rw [hz] at h2; exact ⟨h1, h2⟩
            · obtain ⟨h1, ⟨h2, -⟩ | ⟨-, h2⟩⟩ := h
              · rw [ha] at h2; cases h2
              · rw [os] at h2; exact ⟨h1, h2⟩
            · rintro x w' ⟨⟨b, r, rfl, lb, h1, h2⟩, hb⟩
              have ft : Fit N (tgAll N l l.length (startR N (N + 1) 0)) := tgAll_fit (start_fit N) (fun k hk => right_at ha hk)
              exact ⟨.inr ⟨N, c, b, r, rfl, N8, rfl, h1, h2, zc_of N8 rfl ft.ok ft.low hz, zoneR_32 hz⟩, hb⟩
    · obtain ⟨ad, cap, rfl⟩ : ∃ ad cap, v = .slice ad l.length cap := by
        rcases hS with ⟨ad, c, rfl, rfl⟩ | ⟨cb, off, cap, rfl, hc⟩
        · exact ⟨ad, c, rfl⟩
        · exact ⟨_, cap, rfl⟩
      exact err 6 (fun w' hb => of_long N l.length cap ad w' N8 hl hby) (fun w' hb => same w' (rof_long N l.length cap _ ad w' N8 rfl hl))
  · exact err 12 (fun w' hb => same w' (of_clock n v w' hn)) (fun w' hb => same w' (rof_clock n v w' hn))

/-! ### Texts tell zones apart -/
theorem term_inj {n : Nat} {x y : Cell3} (hn : n ≤ 8) (hx : Good3 n x) (hy : Good3 n y) (e : termT x = termT y) : x = y := by
  rw [termT_form hn hx, termT_form hn hy] at e
  simp only [List.cons_append, List.nil_append, List.cons.injEq, true_and] at e
  obtain ⟨e1, e2, e3⟩ := e
  have a1 := dig_val x.1 (by have := hx.1; omega)
  have a2 := dig_val y.1 (by have := hy.1; omega)
  have b1 := dig_val x.2.1 (by have := hx.2.1; omega)
  have b2 := dig_val y.2.1 (by have := hy.2.1; omega)
  rw [e1] at a1
  rw [e2] at b1
  have rx : rightB x.2.2 = true := by have := (fin_iff x.2.2).1 hx.2.2; exact decide_eq_true (.inr this)
  have ry : rightB y.2.2 = true := by have := (fin_iff y.2.2).1 hy.2.2; exact decide_eq_true (.inr this)
  have c1 := (parseIs_print ry (.inl ⟨rfl, rx, e3⟩ : ParseIs (printS y.2.2) x.2.2 0)).1
  obtain ⟨x1, x2, x3⟩ := x
  obtain ⟨y1, y2, y3⟩ := y
  simp only at *
  have : x1 = y1 := by omega
  have : x2 = y2 := by omega
  subst_vars
  rfl
theorem told_inj {n : Nat} (hn : n ≤ 8) : ∀ {l l' : List Cell3}, (∀ x ∈ l, Good3 n x) → (∀ x ∈ l', Good3 n x) → l.flatMap term3 = l'.flatMap term3 → l = l'
  | [], l', _, _, e => by
    rcases flat_form l' with ⟨-, q⟩ | ⟨x, l2, -, q⟩
    · exact q.symm
    · rw [q] at e; cases e
  | x :: l, [], _, _, e => by
    rw [List.flatMap_cons, term3_T] at e
    cases e
  | x :: l, y :: l', hx, hy, e => by
    rw [List.flatMap_cons, List.flatMap_cons, term3_T, term3_T] at e
    simp only [List.cons_append, List.cons.injEq, true_and] at e
    have gx := hx x (by simp)
    have gy := hy y (by simp)
    have s1 := spT_exact hn gx l
    rw [e, spT_exact hn gy l'] at s1
    injection s1 with s1 s2
    rw [term_inj hn gy gx s1, told_inj hn (fun z hz => hx z (by simp [hz])) (fun z hz => hy z (by simp [hz])) s2.symm]
theorem zprint_inj {n n' : Nat} {c c' : Row} (hn : n ≤ 8) (hn' : n' ≤ 8) (hc : ZC n ((n + 1) * (n + 1)) c) (hc' : ZC n' ((n' + 1) * (n' + 1)) c') (e : printZ n c = printZ n' c') : n = n' ∧ c = c' := by
  obtain ⟨R, -, a2, a3, a4⟩ := head_cut n c hn
  obtain ⟨R', -, b2, b3, b4⟩ := head_cut n' c' hn'
  rw [e, b2] at a2
  injection a2 with e1 a2
  injection a2 with e2 _
  have r1 := (readN_itoa n hn).1
  rw [← e1, (readN_itoa n' hn').1] at r1
  have en : n = n' := by omega
  subst en
  refine ⟨rfl, ?_⟩
  rcases zc_full rfl hc with rfl | ⟨⟨p, hp⟩, h0⟩
  · rcases zc_full rfl hc' with rfl | ⟨⟨p', hp'⟩, h0'⟩
    · rfl
    · rw [a3 (by show (0 : Int) < 1; omega), b4 h0'] at e2
      exact absurd e2 empty_told
  · rcases zc_full rfl hc' with rfl | ⟨⟨p', hp'⟩, h0'⟩
    · rw [b3 (by show (0 : Int) < 1; omega), a4 h0] at e2
      exact absurd e2.symm empty_told
    · rw [a4 h0, b4 h0'] at e2
      have et := told_inj hn (told_good rfl hp' _ (Nat.le_refl _)) (told_good rfl hp _ (Nat.le_refl _)) e2
      have z1 := told_zone hn rfl hp
      rw [← et, told_zone hn rfl hp'] at z1
      injection z1 with z1
      exact z1.symm
/-! ### The document's Key -/
theorem rkey_nil (w : World) : Calls Tryz.prog 12 #[.pointer none] w fun e w' => e = .returned (.slice none 0 0) ∧ w' = w := by
  go_enter Tryz.func12, Tryz.ntmps12
  go_wp2_with fail
  go_ret
  exact ⟨rfl, rfl⟩
set_option maxHeartbeats 1000000 in
theorem four_any (x : Int) (w : World) (h0 : -2147483648 ≤ x) (h1 : x ≤ 2147483647) : Calls Tryz.prog 36 #[.int .i32 x] w fun e w' => e = .returned (.slice (some ⟨w.heap.size, 0, none⟩) 4 4) ∧ w' = w.alloc (.cells ((be4 (x + 2147483648)).map (Value.int .u8)).toArray 5) := by
  have XX := xor_top x h0 h1
  go_enter Tryz.func36, Tryz.ntmps36
  go_wp2_with fail
  go_ret
  refine ⟨rfl, ?_⟩
  have e : (x + 2147483648) / 16777216 % 256 = (x + 2147483648) / 16777216 := by omega
  simp [be4, e]
set_option maxHeartbeats 2000000 in
theorem rkey_any (r n m B : Nat) (c : Row) (w : World) (hn : n ≤ 8) (h81 : m ≤ 81) (hr : C32 c) (h : RZone w B r n (listOf c m)) :
    Calls Tryz.prog 12 #[.pointer (some ⟨r, 0, none⟩)] w fun e w' => (∃ v, e = .returned v ∧ w'.ownsRow w.heap.size 5 1 v (1 + 4 * m) ((keyI n c m).map (Value.int .u8))) ∧ Below w.heap.size w w' := by
  obtain ⟨g, cap, r0, r1, -, -, r4⟩ := h
  rw [listOf_len] at r1
  have R0 : Hid (∀ w', Below w.heap.size w w' → w'.cell? ⟨r, 1, none⟩ = some (.slice (some ⟨g, 0, none⟩) m cap) ∧ ∀ k, k < m → w'.cell? ⟨g, k, none⟩ = some (.int .i32 (c k))) := fun w' hb => ⟨kc _ _ hb r1, fun k hk => by
    have := r4 k (by rw [listOf_len]; exact hk)
    rw [Nat.zero_add, listOf_get c m k hk] at this
    exact kc _ _ hb this⟩
  have HF : Hid (∀ k w, Calls Tryz.prog 36 #[.int .i32 (c k)] w fun e w' => e = .returned (.slice (some ⟨w.heap.size, 0, none⟩) 4 4) ∧ w' = w.alloc (.cells ((be4 (c k + 2147483648)).map (Value.int .u8)).toArray 5)) := fun k w => four_any (c k) w (hr k).1 (hr k).2
  obtain ⟨i0, hi, hz0, hz1, hz2⟩ := info_parts info_u8
  have m1 : (m : Int) ≤ 81 := by omega
  have n0 : IntKind.u8.wrap (n : Int) = (n : Int) := by rw [IntKind.wrap_u8]; omega
  have ba := hideD (below_one w (.cells #[.int .u8 (n : Int)] 5))
  have O1 : Hid ((w.alloc (.cells #[.int .u8 (n : Int)] 5)).ownsRow w.heap.size 5 1 (.slice (some ⟨w.heap.size, 0, none⟩) 1 1) (1 + 4 * 0) ((keyI n c 0).map (Value.int .u8))) := World.ownsRow_lit w #[.int .u8 (n : Int)] 1 (Nat.le_refl _) (by decide) rfl
  clear r1 r4
  go_enter Tryz.func12, Tryz.ntmps12
  go_wp2_with fail
  go_loopw [3, 4] (fun v s wr => ∃ (K : Nat), K ≤ m ∧ s = .int .i64 K ∧ Hid (wr.ownsRow w.heap.size 5 1 v (1 + 4 * K) ((keyI n c K).map (Value.int .u8))) ∧ Hid (Below w.heap.size w wr)) (fun _ s _ => m - (intOf s).toNat)
  case atStart => exact ⟨0, by omega, rfl, O1, ba⟩
  case round =>
    obtain ⟨K, hK, rfl, hO, hB⟩ := hrel
    clear O1 ba
    obtain ⟨c1, hc⟩ := R0.out wr hB.out
    by_cases ck : K < m
    · have c2 := hc K ck
      have k1 : (K : Int) < (m : Int) := by omega
      have k0 : (0 : Int) ≤ (K : Int) := by omega
      have NX : Hid ((keyI n c (K + 1)).map (Value.int .u8) = (keyI n c K).map (Value.int .u8) ++ (be4 (c K + 2147483648)).map (Value.int .u8)) := by show _ = _; rw [keyI_next, List.map_append]
      have HFK := hideD (HF.out K wr)
      have hsz := hB.out.size
      clear hc
      generalize c K = x at *
      go_wp2_with fail
      refine HFK.out.mono ?_
      rintro e w2 ⟨rfl, rfl⟩
      have O2 := hideD (hO.out.alloc (.cells ((be4 (x + 2147483648)).map (Value.int .u8)).toArray 5))
      have B2 := hideD (hB.out.alloc hsz (.cells ((be4 (x + 2147483648)).map (Value.int .u8)).toArray 5))
      have HN : Hid (∀ j' u, ((be4 (x + 2147483648)).map (Value.int .u8))[j']? = some u → (wr.alloc (.cells ((be4 (x + 2147483648)).map (Value.int .u8)).toArray 5)).cell? ((⟨wr.heap.size, 0, none⟩ : Addr).add j') = some u) := by
        intro j' u hj
        rw [Addr.add_lit, World.cell?_alloc_at _ _ _ _ rfl]
        simpa using hj
      have LE : Hid (((be4 (x + 2147483648)).map (Value.int .u8)).length = 4 * 1) := rfl
      have HO1 : Hid (∀ u ∈ (be4 (x + 2147483648)).map (Value.int .u8), u.oneCell' = true) := fun u hu => by
        obtain ⟨z, -, rfl⟩ := List.mem_map.1 hu
        rfl
      have hs2 : Hid (w.heap.size ≤ (wr.alloc (.cells ((be4 (x + 2147483648)).map (Value.int .u8)).toArray 5)).heap.size) := B2.out.size
      clear HFK
      generalize (be4 (x + 2147483648)).map (Value.int .u8) = nw at *
      generalize wr.alloc (.cells nw.toArray 5) = W2 at *
      generalize wr.heap.size = Bk at *
      clear hO hB hsz
      go_wp2_with (at_builtin; refine wpList_append_own _ rfl _ _ 35 rfl w.heap.size 5 i0 (.int .u8 0) 1 1 Tryz.underlying35 hi hz0 hz1 hz2 rfl (by decide) _ (1 + 4 * K) ((keyI n c K).map (Value.int .u8)) rfl O2.out ⟨Bk, 0, none⟩ 4 4 nw rfl LE.out HN.out HO1.out (by unfold maxLen; omega) (by omega) hs2.out ?_; intro v' w5 hown5 hgrow5 hnil5)
      have hb5 : Below w.heap.size w w5 := B2.out.grown hgrow5 hs2.out (by intro q hq; exact (O2.out.lt q hq).1)
      have hO5 : Hid (w5.ownsRow w.heap.size 5 1 v' (1 + 4 * (K + 1)) ((keyI n c (K + 1)).map (Value.int .u8))) := by
        show World.ownsRow _ _ _ _ _ _ _
        rw [NX.out]
        exact hown5
      have B5 := hideD hb5
      clear hown5 hgrow5 hnil5 hb5 O2 B2 hs2 HN LE HO1 NX
      go_wp2_with fail
      go_roundw
      case rel => exact ⟨K + 1, by omega, by go_num, hO5, B5⟩
      case measure => simp [intOf]; omega
    · have ek : K = m := by omega
      have k1 : ¬ (K : Int) < (m : Int) := by omega
      subst ek
      go_wp2_with fail
      go_ret
      exact ⟨⟨_, rfl, hO.out⟩, hB.out⟩
/-! ### gnomonmem.Same over rows of bytes -/
theorem mem_nil (w : World) : Calls Tryz.prog 10 #[.slice none 0 0, .slice none 0 0] w fun e w' => e = .returned (.bool true) ∧ ∃ k, w' = w.drewN k := by
  go_enter Tryz.func10, Tryz.ntmps10
  go_wp2_with fail
  go_loopw [5] (fun s wr => s = .int .i64 0 ∧ wr = w) (fun s _ => 1)
  case atStart => exact ⟨rfl, rfl⟩
  case round =>
    obtain ⟨rfl, rfl⟩ := hrel
    go_wp2_with fail
    go_ret
    exact ⟨rfl, 0, rfl⟩
set_option maxHeartbeats 1000000 in
theorem mem_same (g1 g2 c1 c2 n : Nat) (f : Nat → Int) (w : World) (h1 : ∀ j, j < n → w.cell? ⟨g1, j, none⟩ = some (.int .u8 (f j))) (h2 : ∀ j, j < n → w.cell? ⟨g2, j, none⟩ = some (.int .u8 (f j))) (hn : n ≤ 1000) :
    Calls Tryz.prog 10 #[.slice (some ⟨g1, 0, none⟩) n c1, .slice (some ⟨g2, 0, none⟩) n c2] w fun e w' => e = .returned (.bool true) ∧ ∃ k, w' = w.drewN k := by
  have H1 := hideD h1
  have H2 := hideD h2
  have n1 : (n : Int) ≤ 1000 := by omega
  clear h1 h2
  go_enter Tryz.func10, Tryz.ntmps10
  go_wp2_with fail
  go_loopw [5] (fun s wr => ∃ (I k : Nat), I ≤ n ∧ s = .int .i64 I ∧ wr = w.drewN k) (fun s _ => n - (intOf s).toNat)
  case atStart => exact ⟨0, 0, by omega, rfl, rfl⟩
  case round =>
    obtain ⟨I, k, hI, rfl, rfl⟩ := hrel
    by_cases ci : I < n
    · have a1 := H1.out I ci
      have a2 := H2.out I ci
      have i0 : (0 : Int) ≤ (I : Int) := by omega
      have i1 : (I : Int) < (n : Int) := by omega
      generalize f I = x at *
      go_wp2_with fail
      go_quiet (fail)
      go_wp2_with fail
      go_roundw
      case rel => exact ⟨I + 1, _, by omega, by go_num, rfl⟩
      case measure => simp [intOf]; omega
    · have i1 : ¬ (I : Int) < (n : Int) := by omega
      go_wp2_with fail
      go_ret
      exact ⟨rfl, _, rfl⟩
/-- Two keys that are one. -/
theorem keys_same (n m B1 B2 : Nat) (c : Row) (v v2 : Value) (w : World) (h81 : m ≤ 81) (h1 : w.ownsRow B1 5 1 v (1 + 4 * m) ((keyI n c m).map (Value.int .u8))) (h2 : w.ownsRow B2 5 1 v2 (1 + 4 * m) ((keyI n c m).map (Value.int .u8))) :
    Calls Tryz.prog 10 #[v, v2] w fun e w' => e = .returned (.bool true) ∧ ∃ k, w' = w.drewN k := by
  have kl := keyI_len n c m
  have e1 : 1 + 4 * m = 4 * m + 1 := by omega
  obtain ⟨g1, cap1, rfl⟩ := own_form (K := 4 * m) (by rw [← e1]; exact h1)
  obtain ⟨g2, cap2, rfl⟩ := own_form (K := 4 * m) (by rw [← e1]; exact h2)
  rw [e1] at h1 h2
  refine mem_same g1 g2 cap1 cap2 (4 * m + 1) (fun j => (keyI n c m).getD j 0) w (fun j hj => ?_) (fun j hj => ?_) (by omega)
  · rw [h1.cellAt j (by omega)]
    have : j < (keyI n c m).length := by omega
    simp [List.getD, this]
  · rw [h2.cellAt j (by omega)]
    have : j < (keyI n c m).length := by omega
    simp [List.getD, this]
end Go.Proofs.YtdkolgndebkloaaGreatDoor
