/-
  fed.Includes.
-/
import Derived.Test.YtnfkmpickmonoaaQ34
namespace Go.Proofs.Ytnfkmpickmonoaa
open Go.RowKit Go.Shelf
set_option linter.unusedVariables false
set_option maxRecDepth 100000
attribute [local go_sem] Oper.semAt_some
/-- What is left of rows and an error without one zone more. -/
def fincS (n m : Nat) (s : List Row × Int) (d : Row) : List Row × Int := if s.2 = 0 then minusL n m s.1 d else s
def fincK (n m : Nat) (cs : List Row) (z : PZ7) (K : Nat) : List Row × Int := (cs.take K).foldl (fincS n m) (newL [z])
def fincB (n m : Nat) (cs : List Row) (z : PZ7) : Bool := decide ((fincK n m cs z cs.length).2 = 0) && decide ((fincK n m cs z cs.length).1.length = 0)
theorem fincK_next {n m K : Nat} {cs : List Row} {z : PZ7} (h : K < cs.length) : fincK n m cs z (K + 1) = fincS n m (fincK n m cs z K) cs[K] := by
  unfold fincK
  have e : cs.take (K + 1) = cs.take K ++ [cs[K]] := by
    rw [List.take_add_one, List.getElem?_eq_getElem h]
    rfl
  rw [e, List.foldl_append]
  rfl
/-- Where the rest lies, and the error. -/
def FIncAt (n m : Nat) (s : List Row × Int) (p e : Value) (W : World) : Prop :=
  (∃ fb rs, p = .pointer (some ⟨fb, 0, none⟩) ∧ e = .int .i64 0 ∧ FedAt W fb n m rs ∧ s = (rs.map (·.2), 0)) ∨ (∃ x : Int, x ≠ 0 ∧ p = .pointer none ∧ e = .int .i64 x ∧ s.2 = x)
theorem fincAt_of {H n m : Nat} {s : List Row × Int} {e : Ending} {W : World} (h : MinusOut H n m s e W) : ∃ p x, e = .returned (.tuple #[p, x]) ∧ FIncAt n m s p x W := by
  rcases h with ⟨h1, rfl⟩ | ⟨h1, fb, zs, -, rfl, h2, h3⟩
  · exact ⟨_, _, rfl, .inr ⟨_, h1, rfl, rfl, rfl⟩⟩
  · exact ⟨_, _, rfl, .inl ⟨fb, zs, rfl, rfl, h2, Prod.ext h3.symm h1⟩⟩
set_option maxHeartbeats 4000000 in
theorem finc_any (fb zb n m : Nat) (zs : List ZR) (d : Row) (w : World) (hn : n ≤ 8) (hm : m = (n + 1) * (n + 1)) (hf : FedAt w fb n m zs) (hz : ZoneAt w zb n d) (zd : ZC n m d) :
    Calls Try.prog 26 #[.pointer (some ⟨fb, 0, none⟩), .pointer (some ⟨zb, 0, none⟩)] w fun e w' => e = .returned (.bool (fincB n m (zs.map (·.2)) (some (zb, d)))) ∧ Below w.heap.size w w' := by
  obtain ⟨v, c1, hown⟩ := hf.c1
  obtain ⟨q, hq⟩ : ∃ q, zs.length = q := ⟨_, rfl⟩
  obtain ⟨ad, cap, rfl⟩ := own_sl hown
  rw [hq] at c1
  have HF := hideD (fits_any fb zb n n d w hf.c0 hz)
  rw [show fitE n n = 0 by simp [fitE]] at HF
  have c0 := hf.c0
  have FD := hideD hf
  have HQ := hideD hq
  have HO := hideD hown
  have HN := hideD hn
  have HM := hideD hm
  have HW : Hid (∀ W, Below w.heap.size w W → Calls Try.prog 9 #[.int .i64 (n : Int), .slice (some ⟨W.heap.size, 0, none⟩) 1 1] (W.alloc (.cells #[.pointer (some ⟨zb, 0, none⟩)] 30)) fun e w' => MinusOut (W.alloc (.cells #[.pointer (some ⟨zb, 0, none⟩)] 30)).heap.size n m (newL [some (zb, d)]) e w' ∧ Below (W.alloc (.cells #[.pointer (some ⟨zb, 0, none⟩)] 30)).heap.size (W.alloc (.cells #[.pointer (some ⟨zb, 0, none⟩)] 30)) w') := fun W hW =>
    new_any _ 1 1 n m [some (zb, d)] _ hn rfl (by omega) ⟨fun k hk => by
      obtain rfl : k = 0 := by simp at hk; omega
      exact ⟨W.heap.size, rfl, by simp [go_sem]⟩, fun z hz' => by
      simp at hz'
      subst hz'
      exact ⟨(hz.past hW).past (below_one W _), zd⟩⟩ (by simp [hasNil])
  have q4 : q ≤ 4096 := by rw [← hq]; exact hf.len
  clear hf hz hq hown hn hm zd
  go_enter Try.func26, Try.ntmps26
  go_wp2_with fail
  refine HF.out.mono ?_
  rintro e W1 ⟨rfl, hb⟩
  have c0 := kc _ _ hb c0
  have HC1 := hideD c1
  have B1 := hideD hb
  clear hb HF c1
  go_wp2_with fail
  refine (HW.out W1 B1.out).mono ?_
  rintro e W2 ⟨h, hb2⟩
  obtain ⟨p, x, rfl, hI⟩ := fincAt_of h
  have B2 := hideD (B1.out.trans (((below_one W1 _).trans (hb2.mono (by simp))).mono B1.out.size))
  have d1 := kc _ _ B2.out HC1.out
  have I2 := hideD hI
  clear h hb2 hI HW c0 HC1
  go_wp2_with fail
  go_loopw [30, 5, 6] (fun i p e wr => ∃ (K : Nat), K ≤ q ∧ i = .int .i64 (K : Int) ∧ Hid (FIncAt n m (fincK n m (zs.map (·.2)) (some (zb, d)) K) p e wr) ∧ Hid (Below w.heap.size w wr)) (fun i _ _ _ => q - (intOf i).toNat)
  case atStart => exact ⟨0, Nat.zero_le _, rfl, I2, B2⟩
  case round =>
    obtain ⟨K, hK, rfl, HI, HB⟩ := hrel
    have hwr := HB.out.size
    by_cases ck : K < q
    · have k0 : (K : Int) < (q : Int) := by omega
      have hlz : K < zs.length := by have := HQ.out; omega
      obtain ⟨g, cap', e1, hcell⟩ := owns_elem HO.out (by intro e; rw [e] at hlz; cases hlz)
      injection e1 with e1 e2 e3
      subst e1
      clear e3
      obtain ⟨zk, ez⟩ : ∃ zk, zs[K] = zk := ⟨_, rfl⟩
      obtain ⟨zk, ck7⟩ := zk
      have hel := kc _ _ HB.out (hcell K hlz)
      rw [ez] at hel
      simp only [pvF] at hel
      have HZK := hideD (FD.out.zones _ (List.getElem_mem hlz))
      rw [ez] at HZK
      have EN := fincK_next (n := n) (m := m) (cs := zs.map (·.2)) (z := some (zb, d)) (K := K) (by simpa using hlz)
      rw [List.getElem_map, ez] at EN
      simp only at EN
      clear hcell hlz ez
      rcases HI.out with ⟨fb', rs, rfl, rfl, hF, hS⟩ | ⟨x, hx, rfl, rfl, hS⟩
      · have HMn := hideD (callsIn_wide.1 (fminus_any fb' zk n m rs ck7 wr HN.out HM.out hF (HZK.out.1.past HB.out) HZK.out.2.1))
        have E2 : Hid (fincK n m (zs.map (·.2)) (some (zb, d)) (K + 1) = minusL n m (rs.map (·.2)) ck7) := by
          show _ = _
          rw [EN, hS]
          simp [fincS]
        clear EN hF hS HI HZK
        go_wp2_with fail
        refine HMn.out.mono ?_
        rintro e W7 ⟨h, hb⟩
        obtain ⟨p, x, rfl, hI⟩ := fincAt_of h
        have I7 : Hid (FIncAt n m (fincK n m (zs.map (·.2)) (some (zb, d)) (K + 1)) p x W7) := by
          show FIncAt _ _ _ _ _ _
          rw [E2.out]
          exact hI
        have B7 := hideD (HB.out.trans (hb.mono hwr))
        clear h hb hI HMn hel E2
        go_wp2_with fail
        go_roundw
        case rel => exact ⟨K + 1, by omega, by go_num, I7, B7⟩
        case measure => simp [intOf]; omega
      · have hx' : (x == 0) = false := by simpa using hx
        have I7 : Hid (FIncAt n m (fincK n m (zs.map (·.2)) (some (zb, d)) (K + 1)) (.pointer none) (.int .i64 x) wr) := by
          show FIncAt _ _ _ _ _ _
          rw [EN]
          refine .inr ⟨x, hx, rfl, rfl, ?_⟩
          unfold fincS
          rw [if_neg (by rw [hS]; exact hx), hS]
        clear EN hS HI HZK hx
        go_wp2_with fail
        go_roundw
        case rel => exact ⟨K + 1, by omega, by go_num, I7, HB⟩
        case measure => simp [intOf]; omega
    · have k0 : ¬ (K : Int) < (q : Int) := by omega
      have eK : (zs.map (·.2)).length = K := by rw [List.length_map, HQ.out]; omega
      have EB : Hid (fincB n m (zs.map (·.2)) (some (zb, d)) = (decide ((fincK n m (zs.map (·.2)) (some (zb, d)) K).2 = 0) && decide ((fincK n m (zs.map (·.2)) (some (zb, d)) K).1.length = 0))) := by
        show _ = _
        unfold fincB
        rw [eK]
      rcases HI.out with ⟨fb', rs, rfl, rfl, hF, hS⟩ | ⟨x, hx, rfl, rfl, hS⟩
      · have HE := hideD (fempty_any fb' n m rs wr hF)
        have E2 : Hid (fincB n m (zs.map (·.2)) (some (zb, d)) = decide (rs.length = 0)) := by
          show _ = _
          rw [EB.out, hS]
          simp
        clear hF hS HI EB eK
        go_wp2_with fail
        refine HE.out.mono ?_
        rintro e w7 ⟨rfl, e7⟩
        obtain rfl := e7.symm
        clear HE e7
        generalize decide (rs.length = 0) = tt at *
        go_wp2_with fail
        go_ret
        exact ⟨by rw [E2.out]; rfl, HB.out⟩
      · have hx' : (x == 0) = false := by simpa using hx
        have E2 : Hid (fincB n m (zs.map (·.2)) (some (zb, d)) = false) := by
          show _ = _
          rw [EB.out, decide_eq_false (by rw [hS]; exact hx)]
          rfl
        clear hS HI EB eK hx
        go_wp2_with fail
        go_ret
        exact ⟨by rw [E2.out]; rfl, HB.out⟩
end Go.Proofs.Ytnfkmpickmonoaa
