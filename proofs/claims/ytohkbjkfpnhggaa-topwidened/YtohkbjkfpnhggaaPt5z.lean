/-
  point.mayPass, Right, fits, byNumber.
-/
import Derived.Test.YtohkbjkfpnhggaaPt3z
import Derived.Test.YtohkbjkfpnhggaaPt4z
namespace Go.Proofs.Ytohkbjkfpnhggaa
open Go.RowKit Go.Shelf
set_option linter.unusedVariables false
set_option maxRecDepth 100000
theorem may_no (n d : Int) (w : World) (HR : Hid (AskR n d false)) : Calls Try.prog 59 #[rv n d] w fun e w' => e = .returned (.bool false) ∧ Below w.heap.size w w' := by
  go_enter Try.func59, Try.ntmps59
  go_wp2_with fail
  refine (HR.out _).mono ?_
  rintro e w1 ⟨rfl, hb⟩
  have hB := hideR (beyond (single w _) hb)
  clear hb
  go_wp2_with fail
  go_ret
  exact ⟨rfl, hB.out⟩
theorem may_yes (n d : Int) (w : World) (HR : Hid (AskR n d true)) : Calls Try.prog 59 #[rv n d] w fun e w' => e = .returned (.bool (decide (0 ≤ n))) ∧ Below w.heap.size w w' := by
  go_enter Try.func59, Try.ntmps59
  go_wp2_with fail
  refine (HR.out _).mono ?_
  rintro e w1 ⟨rfl, hb⟩
  have s0 := kc ⟨w.heap.size, 0, none⟩ (.int .i64 n) hb (by first | assumption | simp [go_sem, *])
  have hB := hideR (beyond (single w _) hb)
  clear hb
  go_wp2_with fail
  go_ret
  exact ⟨rfl, hB.out⟩
theorem mayPass_any (n d : Int) (w : World) (hn : I64 n) (hd : I64 d) : Calls Try.prog 59 #[rv n d] w fun e w' => e = .returned (.bool (okR n d)) ∧ Below w.heap.size w w' := by
  have k := askR n d hn hd
  cases r : rightR n d
  · rw [r] at k
    rw [show okR n d = false by simp [okR, r]]
    exact may_no n d w k
  · rw [r] at k
    rw [show okR n d = decide (0 ≤ n) by simp [okR, r]]
    exact may_yes n d w k
theorem right1_raw (n d : Int) (o : Bool) (w : World) (H : Hid (∀ w, Calls Try.prog 59 #[rv n d] w fun e w' => e = .returned (.bool o) ∧ Below w.heap.size w w')) : Calls Try.prog 58 #[rv n d] w fun e w' => e = .returned (.bool (!o)) ∧ Below w.heap.size w w' := by
  go_enter Try.func58, Try.ntmps58
  go_wp2_with fail
  refine (H.out _).mono ?_
  rintro e w1 ⟨rfl, hb⟩
  have hB := hideR (beyond (single w _) hb)
  clear hb
  go_wp2_with fail
  go_ret
  exact ⟨rfl, hB.out⟩
def okL (L : Rats) : Nat → Bool
  | 0 => true
  | k + 1 => okL L k && okR (L.n k) (L.d k)
theorem okL_at {L : Rats} : ∀ {m : Nat}, okL L m = true → ∀ k, k < m → okR (L.n k) (L.d k) = true
  | 0, _, k, hk => by omega
  | m + 1, h, k, hk => by
    simp only [okL, Bool.and_eq_true] at h
    by_cases e : k = m
    · subst e; exact h.2
    · exact okL_at h.1 k (by omega)
theorem okL_false {L : Rats} : ∀ {k : Nat} (m : Nat), k ≤ m → okL L k = false → okL L m = false := by
  intro k m hm h
  induction m with
  | zero => obtain rfl : k = 0 := by omega
            exact h
  | succ m ih =>
    by_cases e : k = m + 1
    · subst e; exact h
    · simp [okL, ih (by omega)]
set_option maxHeartbeats 1000000 in
theorem index_any (ad : Option Addr) (cap q : Nat) (L : Rats) (w : World) (hq : L.q = q) (q1 : q ≤ 9223372036854775807) (hV : RatV w ad L) (hI : RatI L) :
    Calls Try.prog 69 #[.slice ad q cap, .func (.func 58) #[] #[]] w fun e w' => (∃ z : Int, e = .returned (.int .i64 z) ∧ ((okL L q = true ∧ z = -1) ∨ (okL L q = false ∧ 0 ≤ z))) ∧ Below w.heap.size w w' := by
  have HV := hideR hV
  have HI := hideR hI
  have HQ := hideR hq
  clear hV hI hq
  go_enter Try.func69, Try.ntmps69
  go_wp2_with fail
  go_loopw [8] (fun s wr => ∃ (K : Nat), K ≤ q ∧ s = .int .i64 (K : Int) ∧ Hid (okL L K = true) ∧ Hid (Below w.heap.size w wr)) (fun s _ => q - (intOf s).toNat)
  case atStart => exact ⟨0, by omega, rfl, rfl, Below.refl _ _⟩
  case round =>
    obtain ⟨K, hK, rfl, O, B⟩ := hrel
    by_cases ck : K < q
    · obtain ⟨b, off, rfl, c0, c1⟩ := (HV.out.later B.out) K (by rw [HQ.out]; exact ck)
      have k0 : (K : Int) < (q : Int) := by omega
      have iK := HI.out K (by rw [HQ.out]; exact ck)
      have HR := hideR (fun w => right1_raw (L.n K) (L.d K) _ w (fun w => mayPass_any (L.n K) (L.d K) w iK.1 iK.2))
      have ON : Hid (okL L (K + 1) = okR (L.n K) (L.d K)) := by show _ = _; rw [okL, O.out]; simp
      clear iK
      generalize L.n K = x at *
      generalize L.d K = y at *
      cases o : okR x y with
      | true =>
        rw [o] at HR ON
        go_wp2_with fail
        refine (HR.out _).mono ?_
        rintro e w1 ⟨rfl, hb⟩
        have B1 := hideR (beyond B.out hb)
        clear hb B HR c0 c1
        go_wp2_with fail
        go_roundw
        case rel => exact ⟨K + 1, by omega, by go_num, ON, B1⟩
        case measure => simp [intOf]; omega
      | false =>
        rw [o] at HR ON
        have F : Hid (okL L q = false) := okL_false q (by omega) ON.out
        go_wp2_with fail
        refine (HR.out _).mono ?_
        rintro e w1 ⟨rfl, hb⟩
        have B1 := hideR (beyond B.out hb)
        clear hb B HR c0 c1
        go_wp2_with fail
        go_ret
        exact ⟨⟨_, rfl, .inr ⟨F.out, by omega⟩⟩, B1.out⟩
    · have eK : K = q := by omega
      have F : Hid (okL L q = true) := by rw [← eK]; exact O
      have k0 : ¬ (K : Int) < (q : Int) := by omega
      clear eK O
      go_wp2_with fail
      go_ret
      exact ⟨⟨_, rfl, .inl ⟨F.out, rfl⟩⟩, B.out⟩
theorem contains_any (ad : Option Addr) (cap q : Nat) (L : Rats) (w : World) (hq : L.q = q) (q1 : q ≤ 9223372036854775807) (hV : RatV w ad L) (hI : RatI L) :
    Calls Try.prog 57 #[.slice ad q cap, .func (.func 58) #[] #[]] w fun e w' => e = .returned (.bool (!okL L q)) ∧ Below w.heap.size w w' := by
  have H := hideR (index_any ad cap q L w hq q1 hV hI)
  clear hV hI hq
  go_enter Try.func57, Try.ntmps57
  go_wp2_with fail
  refine H.out.mono ?_
  rintro e w1 ⟨⟨z, rfl, h⟩, hb⟩
  have HB := hideR hb
  have HZ : Hid (decide (0 ≤ z) = !okL L q) := by
    show _ = _
    rcases h with ⟨h1, rfl⟩ | ⟨h1, h2⟩
    · rw [h1]; rfl
    · rw [h1]; simpa using h2
  clear h hb H
  go_wp2_with fail
  go_ret
  exact ⟨by rw [HZ.out]; rfl, HB.out⟩
/-- May a list be a valuation? -/
def rightL (L : Rats) : Bool := decide (L.q ≤ 8) && okL L L.q
theorem pright_no (ad : Option Addr) (cap q : Nat) (w : World) (h : ¬ (q : Int) ≤ 8) (q1 : q ≤ 9223372036854775807) :
    Calls Try.prog 44 #[.slice ad q cap] w fun e w' => e = .returned (.bool false) ∧ Below w.heap.size w w' := by
  go_enter Try.func44, Try.ntmps44
  go_wp2_with fail
  go_ret
  exact ⟨rfl, Below.refl _ _⟩
theorem pright_yes (ad : Option Addr) (cap q : Nat) (o : Bool) (w : World) (h : (q : Int) ≤ 8) (H : Hid (Calls Try.prog 57 #[.slice ad q cap, .func (.func 58) #[] #[]] w fun e w' => e = .returned (.bool (!o)) ∧ Below w.heap.size w w')) :
    Calls Try.prog 44 #[.slice ad q cap] w fun e w' => e = .returned (.bool o) ∧ Below w.heap.size w w' := by
  go_enter Try.func44, Try.ntmps44
  go_wp2_with fail
  refine H.out.mono ?_
  rintro e w1 ⟨rfl, hb⟩
  have HB := hideR hb
  clear hb H
  go_wp2_with fail
  go_ret
  exact ⟨by simp, HB.out⟩
theorem pright_any (ad : Option Addr) (cap q : Nat) (L : Rats) (w : World) (hq : L.q = q) (q1 : q ≤ 9223372036854775807) (hV : RatV w ad L) (hI : RatI L) :
    Calls Try.prog 44 #[.slice ad q cap] w fun e w' => e = .returned (.bool (rightL L)) ∧ Below w.heap.size w w' := by
  by_cases h : q ≤ 8
  · rw [show rightL L = okL L q by simp [rightL, hq, h]]
    exact pright_yes ad cap q _ w (by omega) (contains_any ad cap q L w hq q1 hV hI)
  · rw [show rightL L = false by simp [rightL, hq, h]]
    exact pright_no ad cap q w (by omega) q1
end Go.Proofs.Ytohkbjkfpnhggaa
