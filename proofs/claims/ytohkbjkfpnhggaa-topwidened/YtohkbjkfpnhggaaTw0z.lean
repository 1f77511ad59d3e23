/-
  What includes a zone has its valuations, too.
-/
import Derived.Test.YtohkbjkfpnhggaaPtIz
import Derived.Test.YtohkbjkfpnhggaaZm
import Derived.Test.YtohkbjkfpnhggaaGaz
import Derived.Test.YtohkbjkfpnhggaaZk
namespace Go.Proofs.Ytohkbjkfpnhggaa
open Go.RowKit Go.Shelf
set_option linter.unusedVariables false
set_option maxRecDepth 100000
abbrev RB (b : Int) : Prop := b = 2147483647 ∨ (-536870912 ≤ b ∧ b ≤ 536870913)
theorem mulLe {a b D : Int} (hD : 1 ≤ D) (h : a ≤ b) : a * D ≤ b * D := Int.mul_le_mul_of_nonneg_right h (by omega)
theorem hBD_iff {b d D : Int} (hD : 1 ≤ D) (hb : RB b) : holdsB b d D = true ↔ b = 2147483647 ∨ (b % 2 = 1 ∧ 2 * d ≤ (b - 1) * D) ∨ (b % 2 = 0 ∧ 2 * d < b * D) := by
  by_cases e : b = 2147483647
  · subst e
    constructor
    · intro _; exact .inl rfl
    · intro _; unfold holdsB; simp
  · have hf : finB b = true := decide_eq_true (by unfold RB at hb; omega)
    unfold holdsB
    rw [decide_eq_false e, hf, decide_eq_true hD]
    by_cases o : b % 2 = 1
    · have e2 : (b - 1) * D = 2 * (valV b * D) := by
        rw [← Int.mul_assoc]; congr 1; unfold valV; rw [if_pos hf]; omega
      unfold valR
      rw [hf, decide_eq_true o, e2]
      simp
      omega
    · have e2 : b * D = 2 * (valV b * D) := by
        rw [← Int.mul_assoc]; congr 1; unfold valV; rw [if_pos hf]; omega
      unfold valR
      rw [hf, decide_eq_false o, e2]
      simp
      omega
theorem le_bound {a b x D : Int} (hD : 1 ≤ D) (h : a ≤ b) (k : (a % 2 = 1 ∧ x ≤ (a - 1) * D) ∨ (a % 2 = 0 ∧ x < a * D)) : (b % 2 = 1 ∧ x ≤ (b - 1) * D) ∨ (b % 2 = 0 ∧ x < b * D) := by
  rcases k with ⟨o, k⟩ | ⟨o, k⟩
  · by_cases p : b % 2 = 1
    · exact .inl ⟨p, Int.le_trans k (mulLe hD (by omega))⟩
    · have h1 := mulLe hD (show a - 1 ≤ b - 2 by omega)
      rw [Int.sub_mul b 2 D] at h1
      exact .inr ⟨by omega, by omega⟩
  · by_cases p : b % 2 = 1
    · have h1 := mulLe hD (show a ≤ b - 1 by omega)
      exact .inl ⟨p, by omega⟩
    · have h1 := mulLe hD h
      exact .inr ⟨by omega, by omega⟩
theorem hB_le {a b d D : Int} (hD : 1 ≤ D) (ha : RB a) (hb : RB b) (h : a ≤ b) (k : holdsB a d D = true) : holdsB b d D = true := by
  rw [hBD_iff hD ha] at k
  rw [hBD_iff hD hb]
  rcases k with k | k
  · left; unfold RB at hb; omega
  · exact .inr (le_bound hD h k)
theorem rb_of {b : Int} (h : rightB b = true) : RB b := of_decide_eq_true h
/-- What includes a zone that is not empty has all valuations of it. -/
theorem inB_mono {n m : Nat} {c d : Row} {L : Rats} (hn : n ≤ 8) (hm : m = (n + 1) * (n + 1)) (zc : ZC n m c) (zd : ZC n m d) (h0 : ¬ c 0 < 1) (hi : incB m d c = true) (h : inB n m c L = true) : inB n m d L = true := by
  unfold inB at h ⊢
  obtain ⟨hf, ha⟩ := Bool.and_eq_true_iff.1 h
  rw [hf, Bool.true_and]
  unfold allK at ha ⊢
  rw [List.all_eq_true] at ha ⊢
  obtain ⟨Lq, hok⟩ := (fitB_iff hn).1 hf
  have pos : ∀ i, i ≤ n → 0 < (aheadL L).d i := fun i hi => by
    unfold aheadL
    by_cases e : i = 0
    · simp only [e, if_true]; decide
    · simp only [e, if_false]
      exact (right_pos (okR_iff.1 (hok (i - 1) (by omega))).1).1
  intro k hk
  have hk' : k < m := List.mem_range.1 hk
  have k1 := ha k hk
  unfold keepAt at k1 ⊢
  have di : k / (n + 1) ≤ n := by
    have := (Nat.div_lt_iff_lt_mul (show 0 < n + 1 by omega)).2 (hm ▸ hk'); omega
  have mo : k % (n + 1) ≤ n := by
    have := Nat.mod_lt k (show 0 < n + 1 by omega); omega
  have p := pos _ di
  have q := pos _ mo
  rw [keepB_holds _ _ _ _ _ p q (zc_right hm zc k)] at k1
  rw [keepB_holds _ _ _ _ _ p q (zc_right hm zd k)]
  refine hB_le (Int.mul_pos p q) (rb_of (zc_right hm zc _)) (rb_of (zc_right hm zd _)) ?_ k1
  rcases incB_iff.1 hi with h1 | h1
  · omega
  · exact h1 k hk'
/-- A slice of limits. -/
def LimS (w : World) (v : Value) (L : Lims) : Prop := (∃ ad c, v = .slice ad 0 c ∧ L.q = 0) ∨ (∃ b off cap, v = .slice (some ⟨b, off, none⟩) L.q cap ∧ b < w.heap.size ∧ LimRow w b off L)
theorem tw_start {n i j : Nat} (hi : i ≤ n) (hj : j ≤ n) : startR n (n + 1) 0 i j = startV i j := by
  unfold startR
  rw [if_pos (.inl ⟨by omega, hj⟩)]
theorem tw_start_ok (n : Nat) : Ok n (startR n (n + 1) 0) ∧ ∀ j, j ≤ n → startR n (n + 1) 0 0 j ≤ 1 := by
  refine ⟨⟨fun i j hi hj => by rw [tw_start hi hj]; exact startV_fin i j, fun i hi => ?_⟩, fun j hj => ?_⟩
  · rw [tw_start hi hi]; unfold startV; rw [if_neg (by omega)]; omega
  · rw [tw_start (by omega) hj]; unfold startV; rw [if_neg (by omega)]; omega
theorem tg_ok {n i j : Nat} {r : Mat} {x : Int} (h : Ok n r) (h0 : ∀ j, j ≤ n → r 0 j ≤ 1) (hx : rightB x = true) : Ok n (tg r i j x) ∧ ∀ k, k ≤ n → tg r i j x 0 k ≤ 1 := by
  have hb := rb_of hx
  unfold tg
  split
  · exact ⟨h, h0⟩
  · rename_i ne
    refine ⟨⟨fun a b ha hb' => ?_, fun a ha => ?_⟩, fun b hb' => ?_⟩
    · unfold upd
      split
      · rename_i e
        obtain ⟨rfl, rfl⟩ := e
        have := h.fin a b ha hb'
        unfold RB at hb
        unfold Fin' Kb at *
        unfold opn at *
        omega
      · exact h.fin a b ha hb'
    · unfold upd
      split
      · rename_i e
        obtain ⟨rfl, rfl⟩ := e
        have := h.diag a ha
        omega
      · exact h.diag a ha
    · unfold upd
      split
      · rename_i e
        obtain ⟨rfl, rfl⟩ := e
        have := h0 b hb'
        omega
      · exact h0 b hb'
theorem okAll_at {n : Nat} {L : Lims} {k : Nat} (h : okAll n L (k + 1) = true) : okAll n L k = true ∧ rightB (L.b k) = true := by
  have h1 : (okAll n L k && okLim n L k) = true := h
  obtain ⟨h2, h3⟩ := Bool.and_eq_true_iff.1 h1
  unfold okLim at h3
  exact ⟨h2, (Bool.and_eq_true_iff.1 h3).2⟩
theorem tlAll_ok {n : Nat} {L : Lims} : ∀ K, okAll n L K = true → Ok n (tlAll L K (startR n (n + 1) 0)) ∧ ∀ j, j ≤ n → tlAll L K (startR n (n + 1) 0) 0 j ≤ 1
  | 0, _ => tw_start_ok n
  | K + 1, h => by
    obtain ⟨h1, h2⟩ := okAll_at h
    obtain ⟨a, b⟩ := tlAll_ok K h1
    exact tg_ok a b h2
/-- What dbm.Limits tells: an error, or a zone. -/
def LimZ (w' : World) (n : Int) (e : Ending) : Prop := (∃ x : Int, (x != 0) = true ∧ e = .returned (.tuple #[.pointer none, .int .i64 x])) ∨ ∃ (N b : Nat) (c : Row), n = N ∧ N ≤ 8 ∧ e = .returned (.tuple #[.pointer (some ⟨b, 0, none⟩), .int .i64 0]) ∧ ZoneAt w' b N c ∧ ZC N ((N + 1) * (N + 1)) c
theorem limZ_of {w' : World} {N B : Nat} {e : Ending} {r : Mat} (h : N ≤ 8) (hz : ZoneOut w' B N e (zoneR N r)) (ho : Ok N r) (h0 : ∀ j, j ≤ N → r 0 j ≤ 1) : LimZ w' N e := by
  cases ez : zoneR N r with
  | none =>
    rw [ez] at hz
    exact .inl ⟨10, rfl, hz⟩
  | some c =>
    rw [ez] at hz
    obtain ⟨b, _, he, hz⟩ := hz
    exact .inr ⟨N, b, c, rfl, h, he, hz, zc_of h rfl ho h0 ez⟩
theorem limits_zero (n cap : Nat) (ad : Option Addr) (w : World) (h : n ≤ 8) :
    Calls Try.prog 4 #[.int .i64 n, .slice ad 0 cap] w fun e w' => Below w.heap.size w w' ∧ ZoneOut w' w.heap.size n e (zoneR n (startR n (n + 1) 0)) := by
  have H := hideD (mayYes n w h)
  have HD := hideD (draftOf_any n w h)
  go_enter Try.func4, Try.ntmps4
  go_wp2_with fail
  refine H.out.mono ?_
  rintro e w' ⟨rfl, rfl⟩
  go_wp2_with fail
  refine HD.out.mono ?_
  rintro e w1 ⟨rfl, hd, hb⟩
  have HZ := hideD (zone_any _ n _ w1 h hd)
  have hB := hideD hb
  clear hd hb H HD
  go_wp2_with fail
  go_loopw [16] (fun s wr => s = .int .i64 0 ∧ wr = w1) (fun s _ => 1)
  case atStart => exact ⟨rfl, rfl⟩
  case round =>
    obtain ⟨rfl, rfl⟩ := hrel
    go_wp2_with fail
    refine HZ.out.mono ?_
    rintro e' w3 ⟨hz, hb⟩
    have hB3 := hideD (hB.out.trans hb)
    have hsz := hB.out.size
    cases ez : zoneR n (startR n (n + 1) 0) with
    | none =>
      rw [ez] at hz
      obtain rfl := hz
      go_wp2_with fail
      exact bodyPost_ret (v := .tuple #[.pointer none, .int .i64 10]) (by simp [results, Try.results4, go_sem]) rfl ⟨hB3.out, by rw [ez]; exact rfl⟩
    | some c =>
      rw [ez] at hz
      obtain ⟨b', hb', rfl, hz⟩ := hz
      go_wp2_with fail
      exact bodyPost_ret (v := .tuple #[.pointer (some ⟨b', 0, none⟩), .int .i64 0]) (by simp [results, Try.results4, go_sem]) rfl ⟨hB3.out, by rw [ez]; exact ⟨b', Nat.le_trans hsz hb', rfl, hz⟩⟩
theorem limZ_any (n : Int) (v : Value) (L : Lims) (w : World) (hv : LimS w v L) (hi : ∀ k, k < L.q → -2147483648 ≤ L.b k ∧ L.b k ≤ 2147483647) (hq : L.q ≤ 9223372036854775807) :
    Calls Try.prog 4 #[.int .i64 n, v] w fun e w' => LimZ w' n e ∧ Below w.heap.size w w' := by
  by_cases h : 0 ≤ n ∧ n ≤ 8
  · obtain ⟨N, rfl⟩ := Int.eq_ofNat_of_zero_le h.1
    have N8 : N ≤ 8 := by omega
    rcases hv with ⟨ad, c, rfl, h0⟩ | ⟨b, off, cap, rfl, lt, hc⟩
    · exact (limits_zero N c ad w N8).mono fun e w' ⟨hb, hz⟩ => ⟨limZ_of N8 hz (tw_start_ok N).1 (tw_start_ok N).2, hb⟩
    · refine (limits_main N b off cap L w N8 hc lt hi hq).mono fun e w' ⟨hb, ho⟩ => ⟨?_, hb⟩
      rcases ho with ⟨-, rfl⟩ | ⟨ok, hz⟩
      · exact .inl ⟨7, rfl, rfl⟩
      · exact limZ_of N8 hz (tlAll_ok _ ok).1 (tlAll_ok _ ok).2
  · refine (limits_clock n v w h).mono ?_
    rintro e w' ⟨rfl, rfl⟩
    exact ⟨.inl ⟨12, rfl, rfl⟩, Below.refl _ _⟩
theorem full_zc {n m : Nat} {c : Row} (hn : n ≤ 8) (hm : m = (n + 1) * (n + 1)) (zc : ZC n m c) (h0 : ¬ c 0 < 1) : ∃ p, Full n m p c :=
  full_of hn hm (fun k hk => by rw [listOf_get _ _ _ hk]; exact rb_of (zc_right hm zc k)) (zc_zone hn hm zc) h0
end Go.Proofs.Ytohkbjkfpnhggaa
