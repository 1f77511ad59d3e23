/-
  dbm.Parse: the zone whose text it is, or none.
-/
import Derived.Test.YtdkolgndebkloaaGreatDoorTx4z
namespace Go.Proofs.YtdkolgndebkloaaGreatDoor
open Go.RowKit Go.Shelf
set_option linter.unusedVariables false
set_option maxRecDepth 100000
theorem zone_one {w : World} {b n n' : Nat} {c c' : Row} (h : ZoneAt w b n c) (h' : ZoneAt w b n' c') : n = n' ∧ ∀ k, k < 81 → c k = c' k := by
  refine ⟨?_, fun k hk => ?_⟩
  · have e := h.clocks.symm.trans h'.clocks
    injection e with e
    injection e with _ e
    omega
  · have e := (h.cell k hk).symm.trans (h'.cell k hk)
    injection e with e
    injection e
theorem acc_congr {n : Nat} {c c' : Row} : ∀ K, (∀ k, k < K → c k = c' k) → accS n c K = accS n c' K
  | 0, _ => rfl
  | K + 1, h => by
    unfold accS
    rw [acc_congr K fun k hk => h k (by omega), h K (by omega)]
theorem print_congr {n : Nat} {c c' : Row} (hn : n ≤ 8) (h : ∀ k, k < 81 → c k = c' k) : printZ n c = printZ n c' := by
  have m81 : (n + 1) * (n + 1) ≤ 81 := Nat.mul_le_mul (show n + 1 ≤ 9 by omega) (show n + 1 ≤ 9 by omega)
  unfold printZ
  rw [h 0 (by omega), acc_congr _ fun k hk => h k (by omega)]
/-- A text is one of a zone, or of none. -/
def IsText (s : List UInt8) : Prop := ∃ n c, n ≤ 8 ∧ ZC n ((n + 1) * (n + 1)) c ∧ s = printZ n c
set_option maxHeartbeats 4000000 in
theorem pparse_any (s : List UInt8) (w : World) (hlim : s.length ≤ 1048576) (ht : Pow w) (he : Errs w) :
    Calls Tryz.prog 5 #[.string ⟨s.toArray⟩] w fun e w' => ((∃ n c b, n ≤ 8 ∧ ZC n ((n + 1) * (n + 1)) c ∧ s = printZ n c ∧ e = .returned (.tuple #[.pointer (some ⟨b, 0, none⟩), .int .i64 0]) ∧ ZoneAt w' b n c) ∨ (¬ IsText s ∧ e = errOf 7)) ∧ Below w.heap.size w w' := by
  have HR := hideD (readZ_any s w hlim ht he)
  have HP := hideD ht
  clear hlim ht he
  go_enter Tryz.func5, Tryz.ntmps5
  go_wp2_with fail
  refine HR.out.mono ?_
  rintro e w1 ⟨⟨p, ok, rfl, hr⟩, hb1⟩
  clear HR
  cases ok with
  | false =>
    have NT : Hid (¬ IsText s) := fun ⟨n, c, h1, h2, h3⟩ => by have := (hr.out.2 n c h1 h2 h3).1; cases this
    clear hr
    go_wp2_with fail
    exact bodyPost_ret (v := .tuple #[.pointer none, .int .i64 7]) (by simp [results, Tryz.results5, go_sem]) rfl ⟨.inr ⟨NT.out, rfl⟩, hb1.out⟩
  | true =>
    obtain ⟨n, c, hn, hz, b, rfl, hZ⟩ := hr.out.1 rfl
    have HPr := hideD (printZ_any b n c w1 hn hZ (pow_later HP.out hb1.out))
    by_cases es : printZ n c = s
    · have FZ : Hid (n ≤ 8 ∧ ZC n ((n + 1) * (n + 1)) c ∧ s = printZ n c ∧ ZoneAt w1 b n c) := ⟨hn, hz, es.symm, hZ⟩
      have ec : (printZ n c == s) = true := by simpa using es
      generalize printZ n c = pz at HPr ec
      clear hr hz hZ es
      go_wp2_with fail
      refine HPr.out.mono ?_
      rintro e w2 ⟨rfl, hb2⟩
      have B2 := hideD (beyondD hb1.out hb2)
      have Z2 := hideD (FZ.out.2.2.2.past hb2)
      clear HPr hb2 hb1
      go_wp2_with fail
      exact bodyPost_ret (v := .tuple #[.pointer (some ⟨b, 0, none⟩), .int .i64 0]) (by simp [results, Tryz.results5, go_sem]) rfl ⟨.inl ⟨n, c, b, FZ.out.1, FZ.out.2.1, FZ.out.2.2.1, rfl, Z2.out⟩, B2.out⟩
    · have NT : Hid (¬ IsText s) := fun ⟨n', c', h1, h2, h3⟩ => by
        obtain ⟨-, b', e1, h4⟩ := hr.out.2 n' c' h1 h2 h3
        injection e1 with e1
        injection e1 with e1
        subst e1
        obtain ⟨rfl, h5⟩ := zone_one hZ h4
        exact es ((print_congr hn h5).trans h3.symm)
      have ec : (printZ n c == s) = false := by simpa using es
      generalize printZ n c = pz at HPr ec
      clear hr hz hZ es
      go_wp2_with fail
      refine HPr.out.mono ?_
      rintro e w2 ⟨rfl, hb2⟩
      have B2 := hideD (beyondD hb1.out hb2)
      clear HPr hb2 hb1
      go_wp2_with fail
      exact bodyPost_ret (v := .tuple #[.pointer none, .int .i64 7]) (by simp [results, Tryz.results5, go_sem]) rfl ⟨.inr ⟨NT.out, rfl⟩, B2.out⟩
end Go.Proofs.YtdkolgndebkloaaGreatDoor
