/-
  The walk of the statement PointBack.
-/
import Derived.Test.YteifpplemohdcaaGreatDoorQ32
namespace Go.Proofs.YteifpplemohdcaaGreatDoor
open Go.RowKit Go.Shelf
set_option linter.unusedVariables false
set_option maxRecDepth 100000
theorem back_form {L : Rats} (hI : RatI L) (h : rightL L = true) : ∀ w' base e, PtOut w' base (prtL L) e → PtIs L 0 w' e := by
  intro w' base e ho
  by_cases z : L.q = 0
  · have hp : prtL L = [] := by unfold prtL; rw [if_pos h, z]; rfl
    rcases ho with ⟨_, rfl⟩ | ⟨h', _⟩ | ⟨h', _⟩
    · exact ⟨none, 0, by rw [z], fun k hk => by omega⟩
    · exact absurd hp h'
    · exact absurd hp h'
  · obtain ⟨g, e1, e2⟩ := print_good hI h (by omega)
    have el : (pcs (prtL L)).length = L.q := by rw [e1, txtL_len]
    have ne : prtL L ≠ [] := fun e => by
      rw [e] at g
      exact absurd g.2 (by decide +kernel)
    rcases ho with ⟨h', _⟩ | ⟨_, g', _⟩ | ⟨_, _, ad, cap, rfl, _, hV⟩
    · exact absurd h' ne
    · exact absurd g g'
    · refine ⟨ad, cap, by rw [el], fun k hk => ?_⟩
      obtain ⟨b, off, a1, a2, a3⟩ := hV k (by show k < (pcs (prtL L)).length; omega)
      rw [(e2 k hk).1] at a2
      rw [(e2 k hk).2] at a3
      exact ⟨b, off, a1, a2, a3⟩
set_option maxHeartbeats 4000000 in
theorem back_no (q cap : Nat) (ad : Option Addr) (L M : Rats) (k : Int) (s p : ByteArray) (w : World) (hL : L.q ≤ 9223372036854775807) (hq : L.q = q) (hz : k ≠ 0 → M.q = 0)
    (H0 : Hid (Calls Tryz.prog 11 #[.slice ad q cap] w fun e w' => e = .returned (.bool false) ∧ Below w.heap.size w w'))
    (H1 : Hid (∀ w', Below w.heap.size w w' → Calls Tryz.prog 8 #[.slice ad q cap] w' fun e w'' => e = .returned (.string p) ∧ Below w'.heap.size w' w''))
    (HS : Hid (∀ w', Below w.heap.size w w' → Calls Tryz.prog 5 #[.string s] w' fun e w'' => PtIs M k w'' e ∧ Below w'.heap.size w' w''))
    (HPM : Hid (k = 0 → ∀ a c w', Below w.heap.size w w' → RatV w' a M → Calls Tryz.prog 8 #[.slice a M.q c] w' fun e w'' => e = .returned (.string s) ∧ Below w'.heap.size w' w'')) :
    Calls Tryz.prog 4 #[.slice ad q cap, .string s] w fun e w' => e = .returned (.bool true) ∧ Below w.heap.size w w' := by
  have HV := hideR (fun w => plive_any w)
  have HSm := hideR (fun a1 a2 c1 c2 W (h1 : RatV W a1 L) (h2 : RatV W a2 L) => same_rats a1 a2 c1 c2 L W h1 h2 hL)
  rw [hq] at HSm
  have HQ := hideR hq
  have HZ := hideR hz
  clear hL hq hz
  go_enter Tryz.func4, Tryz.ntmps4
  go_wp2_with fail
  have X := H0.out
  with_reducible refine X.mono ?_
  clear X
  rintro e w1 ⟨rfl, hb⟩
  have B1 := hb
  clear hb H0 H1 HSm
  go_wp2_with fail
  have X := (HS.out _ B1)
  with_reducible refine X.mono ?_
  clear X
  rintro e w8 ⟨⟨a8, c8, rfl, V8⟩, hb⟩
  have B8 := beyond B1 hb
  clear hb
  by_cases hk : k = 0
  · subst hk
    go_wp2_with fail
    have X := (HV.out w8)
    with_reducible refine X.mono ?_
    clear X
    rintro e w9 ⟨rfl, hb⟩
    have B9 := beyond B8 hb
    have V9 := V8.out.later hb
    have X9 := hideR (HPM.out (by first | rfl | trivial) a8 c8 w9 B9 V9)
    clear hb V9 V8
    go_wp2_with fail
    have X := X9.out
    with_reducible refine X.mono ?_
    clear X
    rintro e w10 ⟨rfl, hb⟩
    have B10 := beyond B9 hb
    clear hb X9
    go_wp2_with fail
    go_ret
    exact ⟨rfl, B10⟩
  · have k1 : (k != 0) = true := by simpa using hk
    have k2 : (k == 0) = false := by simpa using hk
    have mz := HZ.out hk
    rw [mz]
    clear hk V8
    go_wp2_with fail
    have X := (HV.out w8)
    with_reducible refine X.mono ?_
    clear X
    rintro e w9 ⟨rfl, hb⟩
    have B9 := beyond B8 hb
    clear hb
    go_wp2_with fail
    go_ret
    exact ⟨rfl, B9⟩
set_option maxHeartbeats 4000000 in
theorem back_yes (q cap : Nat) (ad : Option Addr) (L M : Rats) (k : Int) (s p : ByteArray) (w : World) (hL : L.q ≤ 9223372036854775807) (hq : L.q = q) (hz : k ≠ 0 → M.q = 0)
    (H0 : Hid (Calls Tryz.prog 11 #[.slice ad q cap] w fun e w' => e = .returned (.bool true) ∧ Below w.heap.size w w'))
    (H1 : Hid (∀ w', Below w.heap.size w w' → Calls Tryz.prog 8 #[.slice ad q cap] w' fun e w'' => e = .returned (.string p) ∧ Below w'.heap.size w' w''))
    (H2 : Hid (∀ w', Below w.heap.size w w' → Calls Tryz.prog 5 #[.string p] w' fun e w'' => PtIs L 0 w'' e ∧ Below w'.heap.size w' w''))
    (HR : Hid (RatV w ad L))
    (HS : Hid (∀ w', Below w.heap.size w w' → Calls Tryz.prog 5 #[.string s] w' fun e w'' => PtIs M k w'' e ∧ Below w'.heap.size w' w''))
    (HPM : Hid (k = 0 → ∀ a c w', Below w.heap.size w w' → RatV w' a M → Calls Tryz.prog 8 #[.slice a M.q c] w' fun e w'' => e = .returned (.string s) ∧ Below w'.heap.size w' w'')) :
    Calls Tryz.prog 4 #[.slice ad q cap, .string s] w fun e w' => e = .returned (.bool true) ∧ Below w.heap.size w w' := by
  have HV := hideR (fun w => plive_any w)
  have HSm := hideR (fun a1 a2 c1 c2 W (h1 : RatV W a1 L) (h2 : RatV W a2 L) => same_rats a1 a2 c1 c2 L W h1 h2 hL)
  rw [hq] at HSm
  have HQ := hideR hq
  have HZ := hideR hz
  clear hL hq hz
  go_enter Tryz.func4, Tryz.ntmps4
  go_wp2_with fail
  have X := H0.out
  with_reducible refine X.mono ?_
  clear X
  rintro e w1 ⟨rfl, hb⟩
  have B1 := hb
  clear hb H0
  go_wp2_with fail
  have X := (H1.out _ B1)
  with_reducible refine X.mono ?_
  clear X
  rintro e w2 ⟨rfl, hb⟩
  have B2 := beyond B1 hb
  clear hb
  go_wp2_with fail
  have X := (H2.out _ B2)
  with_reducible refine X.mono ?_
  clear X
  rintro e w3 ⟨⟨a3, c3, rfl, V3⟩, hb⟩
  have B3 := beyond B2 hb
  have S3 := hideR (HSm.out a3 ad c3 cap w3 V3.out (HR.out.later B3))
  have EQ := HQ.out
  rw [EQ]
  clear hb V3 EQ H1 H2 HR HSm
  go_wp2_with fail
  have X := S3.out
  with_reducible refine X.mono ?_
  clear X
  rintro e w4 ⟨rfl, hb⟩
  have B4 := beyond B3 hb
  clear hb
  go_wp2_with fail
  have X := (HS.out _ B4)
  with_reducible refine X.mono ?_
  clear X
  rintro e w8 ⟨⟨a8, c8, rfl, V8⟩, hb⟩
  have B8 := beyond B4 hb
  clear hb
  by_cases hk : k = 0
  · subst hk
    go_wp2_with fail
    have X := (HV.out w8)
    with_reducible refine X.mono ?_
    clear X
    rintro e w9 ⟨rfl, hb⟩
    have B9 := beyond B8 hb
    have V9 := V8.out.later hb
    have X9 := hideR (HPM.out (by first | rfl | trivial) a8 c8 w9 B9 V9)
    clear hb V9 V8
    go_wp2_with fail
    have X := X9.out
    with_reducible refine X.mono ?_
    clear X
    rintro e w10 ⟨rfl, hb⟩
    have B10 := beyond B9 hb
    clear hb X9
    go_wp2_with fail
    go_ret
    exact ⟨rfl, B10⟩
  · have k1 : (k != 0) = true := by simpa using hk
    have k2 : (k == 0) = false := by simpa using hk
    have mz := HZ.out hk
    rw [mz]
    clear hk V8
    go_wp2_with fail
    have X := (HV.out w8)
    with_reducible refine X.mono ?_
    clear X
    rintro e w9 ⟨rfl, hb⟩
    have B9 := beyond B8 hb
    clear hb
    go_wp2_with fail
    go_ret
    exact ⟨rfl, B9⟩
theorem pointBack.walk (v : Value) (L : Rats) (s : ByteArray) (hs : s.size ≤ maxLen) (w : World) (ht : Pow w) (he : Errs w) (hR : RatS w v L) (wf : ∀ k, k < L.q → (Lit.int .i64 (L.n k)).wf = true ∧ (Lit.int .i64 (L.d k)).wf = true) (hby : L.q * 16 ≤ 140737488355328) (hlim : s.size ≤ 140737488355328) (hup : s.size ≤ 1048576) :
    Calls Tryz.prog 4 #[v, .string s] w fun e w' => e = .returned (.bool true) ∧ Below w.heap.size w w' := by
  obtain ⟨ad, cap, rfl, hn, hV⟩ := hR
  have hI : RatI L := fun k hk => ⟨i64_wf (wf k hk).1, i64_wf (wf k hk).2⟩
  obtain ⟨M, k, mI, mq, m0, mk, hM⟩ := pt_form s.data.toList
  have sl : s.data.toList.length = s.size := by simp
  have HS : Hid (∀ w', Below w.heap.size w w' → Calls Tryz.prog 5 #[.string s] w' fun e w'' => PtIs M k w'' e ∧ Below w'.heap.size w' w'') := fun w' hb => (pparse_pt s w' hup (pow_later ht hb) (errs_later he hb)).mono fun e w'' ⟨h1, h2⟩ => ⟨hM _ _ _ h1, h2⟩
  have HPM : Hid (k = 0 → ∀ a c w', Below w.heap.size w w' → RatV w' a M → Calls Tryz.prog 8 #[.slice a M.q c] w' fun e w'' => e = .returned (.string s) ∧ Below w'.heap.size w' w'') := fun hk a c w' hb hv => by
    have := pprint_pt a M.q c M w' rfl (by omega) hv mI (pow_later ht hb)
    rw [m0 hk, ← bytes_self s] at this
    exact this
  have HR := pright_any ad cap L.q L w rfl (by omega) hV hI
  have HP : Hid (∀ w', Below w.heap.size w w' → Calls Tryz.prog 8 #[.slice ad L.q cap] w' fun e w'' => e = .returned (.string ⟨(prtL L).toArray⟩) ∧ Below w'.heap.size w' w'') := fun w' hb => pprint_pt ad L.q cap L w' rfl (by omega) (hV.later hb) hI (pow_later ht hb)
  cases r : rightL L with
  | false =>
    rw [r] at HR
    exact back_no L.q cap ad L M k s _ w (by omega) rfl mk HR HP HS HPM
  | true =>
    rw [r] at HR
    have q8 := (right_at r).1
    have l1 : (⟨(prtL L).toArray⟩ : ByteArray).size ≤ 1048576 := by
      have h1 : (prtL L).length ≤ 44 * L.q := by
        unfold prtL
        rw [if_pos r]
        exact Nat.le_trans (join_len _) (txt_sum L.q fun k hk => hI k hk)
      show (prtL L).toArray.size ≤ 1048576
      rw [List.size_toArray]
      omega
    refine back_yes L.q cap ad L M k s _ w (by omega) rfl mk HR HP (fun w' hb => ?_) hV HS HPM
    exact (pparse_pt _ w' l1 (pow_later ht hb) (errs_later he hb)).mono fun e w'' ⟨h1, h2⟩ => ⟨back_form hI r _ _ _ h1, h2⟩
end Go.Proofs.YteifpplemohdcaaGreatDoor
