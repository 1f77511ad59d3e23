/-
  The document's nils, And and Hull where no zone stands beside; errors.
-/
import Derived.Test.YtjmgkbcgaloipaaDoorCcz
namespace Go.Proofs.YtjmgkbcgaloipaaDoor
open Go.RowKit
set_option linter.unusedVariables false
set_option maxRecDepth 100000
set_option maxHeartbeats 2000000 in
theorem rnils_none (b n cap : Nat) (ad : Option Addr) (w : World) :
    Calls Tryd.prog 100 #[.pointer (some ⟨b, 0, none⟩), .slice ad 0 cap] w fun e w' => e = .returned (.int .i64 0) ∧ w' = w := by
  go_enter Tryd.func100, Tryd.ntmps100
  go_wp2_with fail
  go_loopw [5] (fun s wr => s = .int .i64 0 ∧ wr = w) (fun s _ => 0)
  case atStart => exact ⟨rfl, rfl⟩
  case round =>
    obtain ⟨rfl, rfl⟩ := hrel
    go_wp2_with fail
    go_loopw [6] (fun s w' => s = .int .i64 0 ∧ w' = wr) (fun s _ => 0)
    case atStart => exact ⟨rfl, rfl⟩
    case round =>
      obtain ⟨rfl, rfl⟩ := hrel
      go_wp2_with fail
      go_ret
      exact ⟨rfl, rfl⟩
theorem rand_e (p v : Value) (k : Int) (w : World) (hk : k ≠ 0) (H : Calls Tryd.prog 100 #[p, v] w fun e w' => e = .returned (.int .i64 k) ∧ w' = w) :
    Calls Tryd.prog 38 #[p, v] w fun e w' => e = errOf k ∧ w' = w := by
  have H := hideD H
  have d : decide (k = 0) = false := by simpa using hk
  go_enter Tryd.func38, Tryd.ntmps38
  go_wp2_with fail
  refine H.out.mono ?_
  rintro e w' ⟨rfl, rfl⟩
  go_wp2_with fail
  exact bodyPost_ret (v := .tuple #[.pointer none, .int .i64 k]) (by simp [results, Tryd.results38, go_sem]) rfl ⟨rfl, rfl⟩
theorem rhull_e (p v : Value) (k : Int) (w : World) (hk : k ≠ 0) (H : Calls Tryd.prog 100 #[p, v] w fun e w' => e = .returned (.int .i64 k) ∧ w' = w) :
    Calls Tryd.prog 40 #[p, v] w fun e w' => e = errOf k ∧ w' = w := by
  have H := hideD H
  have d : decide (k = 0) = false := by simpa using hk
  go_enter Tryd.func40, Tryd.ntmps40
  go_wp2_with fail
  refine H.out.mono ?_
  rintro e w' ⟨rfl, rfl⟩
  go_wp2_with fail
  exact bodyPost_ret (v := .tuple #[.pointer none, .int .i64 k]) (by simp [results, Tryd.results40, go_sem]) rfl ⟨rfl, rfl⟩
set_option maxHeartbeats 4000000 in
theorem rand_none (r n m B cap : Nat) (ad : Option Addr) (c : Row) (o : Option Row) (w : World) (hn : n ≤ 8) (hm : m = (n + 1) * (n + 1)) (h : RZone w B r n (listOf c m)) (hc : C32 c) (h01 : c 0 = 0 ∨ c 0 = 1)
    (hO : c 0 = 0 → o = some fun _ => 0) (hF : c 0 = 1 → Ok n (rowMat n (listOf c m)) ∧ (∀ j, j ≤ n → rowMat n (listOf c m) 0 j ≤ 1) ∧ zoneR n (rowMat n (listOf c m)) = o) :
    Calls Tryd.prog 38 #[.pointer (some ⟨r, 0, none⟩), .slice ad 0 cap] w fun e w' => RefOut w' n m e o ∧ Below w.heap.size w w' := by
  have mp : 0 < m := by rw [hm]; exact Nat.mul_pos (by omega) (by omega)
  have HJ := hideD (rnils_none r n cap ad w)
  have HDJ := hideD (rdim_any h)
  have HE := hideD (rempty_is h mp)
  have HN : Hid (∀ w, _) := fun w => nothing_any n m w hn hm
  have HOp := hideD (open_any r n m B (listOf c m) w hn hm (listOf_len c m) (fun j hj => by rw [listOf_get c m j hj]; exact hc j) h)
  have HSh : Hid (∀ d g s w, RC w d g n m s → Ok n s → (∀ j, j ≤ n → s 0 j ≤ 1) → _) := fun d g s w hr h1 h2 => shut_any d g n m s w hn hm hr h1 h2
  have HO := hideD hO
  have HF := hideD hF
  clear h hc hO hF hm
  generalize rowMat n (listOf c m) = r0 at *
  rcases h01 with e0 | e0
  · rw [e0] at HE
    have o0 := HO.out e0
    subst o0
    clear HOp HSh HO HF
    go_enter Tryd.func38, Tryd.ntmps38
    go_wp2_with fail
    refine HJ.out.mono ?_
    rintro e w1 ⟨rfl, rfl⟩
    go_wp2_with fail
    refine HE.out.mono ?_
    rintro e w1 ⟨rfl, rfl⟩
    go_wp2_with fail
    refine HDJ.out.mono ?_
    rintro e w1 ⟨rfl, rfl⟩
    go_wp2_with fail
    refine (HN.out _).mono ?_
    rintro e w2 ⟨⟨b, B', rfl, hz⟩, hb⟩
    go_wp2_with fail
    exact bodyPost_ret (v := .tuple #[.pointer (some ⟨b, 0, none⟩), .int .i64 0]) (by simp [results, Tryd.results38, go_sem]) rfl ⟨⟨B', b, rfl, hz⟩, hb⟩
  · rw [e0] at HE
    obtain ⟨ok1, ok2, ok3⟩ := HF.out e0
    have FO2 : Hid (∀ w' e, ShutOut w' n m e r0 → RefOut w' n m e o) := fun w' e h => by rw [← ok3]; exact h
    clear HF HDJ HO HN ok3
    go_enter Tryd.func38, Tryd.ntmps38
    go_wp2_with fail
    refine HJ.out.mono ?_
    rintro e w1 ⟨rfl, rfl⟩
    go_wp2_with fail
    refine HE.out.mono ?_
    rintro e w1 ⟨rfl, rfl⟩
    go_wp2_with fail
    refine HOp.out.mono ?_
    rintro e w2 ⟨⟨d, g, rfl, hd, hg, hR⟩, hb⟩
    have R2 := hideD hR
    have B2 := hideD hb
    clear HJ HE HOp hR hb
    go_wp2_with fail
    go_loopw [8] (fun s wr => s = .int .i64 0 ∧ Hid (RC wr d g n m r0) ∧ Hid (Below w1.heap.size w1 wr)) (fun s _ => 0)
    case atStart => exact ⟨rfl, R2, B2⟩
    case round =>
      obtain ⟨rfl, hR, hB⟩ := hrel
      clear R2 B2
      have HSK := hideD (HSh.out d g _ wr hR.out ok1 ok2)
      go_wp2_with fail
      refine HSK.out.mono ?_
      rintro e w3 ⟨⟨p', k', rfl, ho⟩, hb⟩
      have FIN := hideD (FO2.out _ _ ho.out)
      have B3 := hideD (hB.out.trans (hb.out.mono hg))
      clear ho hb HSK
      go_wp2_with fail
      exact bodyPost_ret (v := .tuple #[.pointer p', .int .i64 k']) (by simp [results, Tryd.results38, go_sem]) rfl ⟨FIN.out, B3.out⟩
end Go.Proofs.YtjmgkbcgaloipaaDoor
