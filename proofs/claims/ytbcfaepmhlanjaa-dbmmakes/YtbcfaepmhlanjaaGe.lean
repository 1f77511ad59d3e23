/-
  What both say of limits, of the universe, of zero; cells of both; rows that are copied.
-/
import Derived.Test.YtbcfaepmhlanjaaGd
import Derived.Test.YtbcfaepmhlanjaaEv
namespace Go.Proofs.Ytbcfaepmhlanjaa
open Go.RowKit
set_option linter.unusedVariables false
set_option maxRecDepth 100000
/-- A zone of the program's and one of the document's with the same cells, or nil twice. -/
def Same2 (w : World) (vx vy : Value) : Prop := (vx = .pointer none ∧ vy = .pointer none) ∨ ∃ (N b r : Nat) (c : Row), N ≤ 8 ∧ vx = .pointer (some ⟨b, 0, none⟩) ∧ vy = .pointer (some ⟨r, 0, none⟩) ∧ ZoneAt w b N c ∧ RZone w 0 r N (listOf c ((N + 1) * (N + 1)))
theorem Same2.past {w w' : World} {vx vy : Value} (h : Same2 w vx vy) (hb : Below w.heap.size w w') : Same2 w' vx vy := by
  rcases h with h | ⟨N, b, r, c, h2, h3, h4, h5, h6⟩
  · exact .inl h
  · exact .inr ⟨N, b, r, c, h2, h3, h4, h5.past hb, h6.past hb⟩
/-- The cells of both are asked for, and are the same. -/
theorem same2_cells {w : World} {vx vy : Value} (h : Same2 w vx vy) :
    Calls Try.prog 18 #[vx] w fun x w1 => (∃ v1, x = .returned v1 ∧ ∀ w2, Below w1.heap.size w1 w2 → Calls Try.prog 19 #[vy] w2 fun y w3 => (∃ v2, y = .returned v2 ∧ ∀ w4, Below w3.heap.size w3 w4 → Calls Try.prog 7 #[v1, v2] w4 fun z w5 => z = .returned (.bool true) ∧ Below w4.heap.size w4 w5) ∧ Below w2.heap.size w2 w3) ∧ Below w.heap.size w w1 := by
  rcases h with ⟨rfl, rfl⟩ | ⟨N, b, r, c, N8, rfl, rfl, hz, hr⟩
  · refine (zcells_nil w).mono ?_
    rintro x w1 ⟨rfl, rfl⟩
    refine ⟨⟨_, rfl, fun w2 hb => (rcells_nil w2).mono ?_⟩, Below.refl _ _⟩
    rintro y w3 ⟨rfl, rfl⟩
    refine ⟨⟨_, rfl, fun w4 hb => (same_nil w4).mono ?_⟩, Below.refl _ _⟩
    rintro z w5 ⟨rfl, k, rfl⟩
    exact ⟨rfl, below_draw _ _⟩
  · have mp : 0 < (N + 1) * (N + 1) := Nat.mul_pos (by omega) (by omega)
    have m81 : (N + 1) * (N + 1) ≤ 81 := Nat.mul_le_mul (show N + 1 ≤ 9 by omega) (show N + 1 ≤ 9 by omega)
    have hl := listOf_len c ((N + 1) * (N + 1))
    refine (cells_any b N c w hz N8).mono ?_
    rintro x w1 ⟨⟨v1, rfl, g1, cap1, rfl, -, l1, row1⟩, hb1⟩
    refine ⟨⟨_, rfl, fun w2 hb2 => ?_⟩, hb1⟩
    have hr2 := (hr.past hb1).past hb2
    have row2 := row1.later hb2 l1
    obtain ⟨g, cap, -, a, -, -, R⟩ := hr2
    refine (rcells_any r g N cap _ _ w2 hl m81 mp (by rw [← hl]; exact a) R).mono ?_
    rintro y w3 ⟨⟨v2, rfl, g2, cap2, rfl, -, l2, row3⟩, hb3⟩
    refine ⟨⟨_, rfl, fun w4 hb4 => ?_⟩, hb3⟩
    rw [hl]
    have ra : RowAt w4 g1 0 (listOf c ((N + 1) * (N + 1))) := fun j hj => kc _ _ hb4 (kc _ _ hb3 (row2 j hj))
    have rb : RowAt w4 g2 0 (listOf c ((N + 1) * (N + 1))) := fun j hj => kc _ _ hb4 (row3 j hj)
    have S := sameCells_same g1 g2 cap1 cap2 _ _ _ w4 ra rb hl hl m81
    rw [sc_of_eq _ _ _ (fun _ _ => rfl)] at S
    refine S.mono ?_
    rintro z w5 ⟨rfl, k, rfl⟩
    exact ⟨rfl, below_draw _ _⟩
/-- Two calls of which both say the same: an error, or a zone. -/
def TwoSay (w : World) (fp : Nat) (ap : Array Value) (fr : Nat) (ar : Array Value) : Prop :=
  (∃ e : Int, (∀ w', Below w.heap.size w w' → Calls Try.prog fp ap w' fun x w'' => x = errOf e ∧ Below w'.heap.size w' w'') ∧ (∀ w', Below w.heap.size w w' → Calls Try.prog fr ar w' fun x w'' => x = errOf e ∧ Below w'.heap.size w' w'')) ∨
  (∃ (N : Nat) (c : Row), N ≤ 8 ∧ (∀ w', Below w.heap.size w w' → Calls Try.prog fp ap w' fun x w'' => Below w'.heap.size w' w'' ∧ ZoneOut w'' w'.heap.size N x (some c)) ∧ (∀ w', Below w.heap.size w w' → Calls Try.prog fr ar w' fun x w'' => Below w'.heap.size w' w'' ∧ ∃ B', RZoneOut w'' B' N x (some (listOf c ((N + 1) * (N + 1))))))
theorem TwoSay.later {w w' : World} {fp fr : Nat} {ap ar : Array Value} (h : TwoSay w fp ap fr ar) (hb : Below w.heap.size w w') : TwoSay w' fp ap fr ar := by
  rcases h with ⟨e, h1, h2⟩ | ⟨N, c, h0, h1, h2⟩
  · exact .inl ⟨e, fun w'' h => h1 w'' (beyondD hb h), fun w'' h => h2 w'' (beyondD hb h)⟩
  · exact .inr ⟨N, c, h0, fun w'' h => h1 w'' (beyondD hb h), fun w'' h => h2 w'' (beyondD hb h)⟩
theorem two_calls {w : World} {fp fr : Nat} {ap ar : Array Value} (h : TwoSay w fp ap fr ar) :
    Calls Try.prog fp ap w fun x w1 => (∃ vx e, x = .returned (.tuple #[vx, .int .i64 e]) ∧ ∀ w2, Below w1.heap.size w1 w2 → Calls Try.prog fr ar w2 fun y w3 => (∃ vy, y = .returned (.tuple #[vy, .int .i64 e]) ∧ Same2 w3 vx vy) ∧ Below w2.heap.size w2 w3) ∧ Below w.heap.size w w1 := by
  rcases h with ⟨e, h1, h2⟩ | ⟨N, c, N8, h1, h2⟩
  · refine (h1 w (Below.refl _ _)).mono ?_
    rintro x w1 ⟨rfl, hb1⟩
    refine ⟨⟨_, e, rfl, fun w2 hb2 => (h2 w2 (beyondD hb1 hb2)).mono ?_⟩, hb1⟩
    rintro y w3 ⟨rfl, hb3⟩
    exact ⟨⟨_, rfl, .inl ⟨rfl, rfl⟩⟩, hb3⟩
  · refine (h1 w (Below.refl _ _)).mono ?_
    rintro x w1 ⟨hb1, b, lb, rfl, hz⟩
    refine ⟨⟨_, 0, rfl, fun w2 hb2 => (h2 w2 (beyondD hb1 hb2)).mono ?_⟩, hb1⟩
    rintro y w3 ⟨hb3, B', r, rfl, hr⟩
    exact ⟨⟨_, rfl, .inr ⟨N, b, r, c, N8, rfl, rfl, (hz.past hb2).past hb3, hr.weak⟩⟩, hb3⟩
theorem two_of_option {w : World} {fp fr : Nat} {ap ar : Array Value} {N : Nat} (N8 : N ≤ 8) (o : Option Row) (h1 : ∀ w', Below w.heap.size w w' → Calls Try.prog fp ap w' fun x w'' => Below w'.heap.size w' w'' ∧ ZoneOut w'' w'.heap.size N x o)
    (h2 : ∀ w', Below w.heap.size w w' → Calls Try.prog fr ar w' fun x w'' => Below w'.heap.size w' w'' ∧ ∃ B', RZoneOut w'' B' N x (o.map (fun c => listOf c ((N + 1) * (N + 1))))) : TwoSay w fp ap fr ar := by
  cases o with
  | none =>
    refine .inl ⟨10, fun w' hb => (h1 w' hb).mono ?_, fun w' hb => (h2 w' hb).mono ?_⟩
    · rintro x w'' ⟨hb, hx⟩
      exact ⟨hx, hb⟩
    · rintro x w'' ⟨hb, B', hx⟩
      exact ⟨hx, hb⟩
  | some c => exact .inr ⟨N, c, N8, h1, h2⟩
theorem two_universe (n : Int) (w : World) : TwoSay w 10 #[.int .i64 n] 11 #[.int .i64 n] := by
  by_cases h : 0 ≤ n ∧ n ≤ 8
  · obtain ⟨N, rfl⟩ := Int.eq_ofNat_of_zero_le h.1
    exact two_of_option (by omega) _ (fun w' _ => universe_any N w' (by omega)) (fun w' _ => runiverse_any N _ w' (by omega) rfl)
  · exact .inl ⟨12, fun w' _ => (universe_clock n w' h).mono fun x w'' ⟨a, b⟩ => ⟨a, by rw [b]; exact Below.refl _ _⟩, fun w' _ => (runiverse_clock n w' h).mono fun x w'' ⟨a, b⟩ => ⟨a, by rw [b]; exact Below.refl _ _⟩⟩
theorem two_zero (n : Int) (w : World) : TwoSay w 12 #[.int .i64 n] 13 #[.int .i64 n] := by
  by_cases h : 0 ≤ n ∧ n ≤ 8
  · obtain ⟨N, rfl⟩ := Int.eq_ofNat_of_zero_le h.1
    exact two_of_option (by omega) _ (fun w' _ => zero_dbm N w' (by omega)) (fun w' _ => rzero_any N _ w' (by omega) rfl)
  · exact .inl ⟨12, fun w' _ => (zero_clock n w' h).mono fun x w'' ⟨a, b⟩ => ⟨a, by rw [b]; exact Below.refl _ _⟩, fun w' _ => (rzero_clock n w' h).mono fun x w'' ⟨a, b⟩ => ⟨a, by rw [b]; exact Below.refl _ _⟩⟩
/-- A slice of limits. -/
def LimS (w : World) (v : Value) (L : Lims) : Prop := (∃ ad c, v = .slice ad 0 c ∧ L.q = 0) ∨ (∃ b off cap, v = .slice (some ⟨b, off, none⟩) L.q cap ∧ b < w.heap.size ∧ LimRow w b off L)
theorem LimS.later {w w' : World} {v : Value} {L : Lims} (h : LimS w v L) (hb : Below w.heap.size w w') : LimS w' v L := by
  rcases h with h | ⟨b, off, cap, rfl, lt, hc⟩
  · exact .inl h
  · exact .inr ⟨b, off, cap, rfl, Nat.lt_of_lt_of_le lt hb.size, hc.later hb lt⟩
theorem limits_zero (n cap : Nat) (ad : Option Addr) (w : World) (h : n ≤ 8) :
    Calls Try.prog 8 #[.int .i64 n, .slice ad 0 cap] w fun e w' => Below w.heap.size w w' ∧ ZoneOut w' w.heap.size n e (zoneR n (startR n (n + 1) 0)) := by
  have H := hideD (mayYes n w h)
  have HD := hideD (draftOf_any n w h)
  go_enter Try.func8, Try.ntmps8
  go_wp2_with fail
  refine H.out.mono ?_
  rintro e w' ⟨rfl, rfl⟩
  go_wp2_with fail
  refine HD.out.mono ?_
  rintro e w1 ⟨rfl, hd, hb⟩
  have HZ := hideD (zone_any _ n _ w1 h hd)
  have hB := hideD hb
  clear hd hb H HD
  go_wp2_with fail
  go_loopw [16] (fun s wr => s = .int .i64 0 ∧ wr = w1) (fun s _ => 1)
  case atStart => exact ⟨rfl, rfl⟩
  case round =>
    obtain ⟨rfl, rfl⟩ := hrel
    go_wp2_with fail
    refine HZ.out.mono ?_
    rintro e' w3 ⟨hz, hb⟩
    have hB3 := hideD (hB.out.trans hb)
    have hsz := hB.out.size
    cases ez : zoneR n (startR n (n + 1) 0) with
    | none =>
      rw [ez] at hz
      obtain rfl := hz
      go_wp2_with fail
      exact bodyPost_ret (v := .tuple #[.pointer none, .int .i64 10]) (by simp [results, Try.results8, go_sem]) rfl ⟨hB3.out, by rw [ez]; exact rfl⟩
    | some c =>
      rw [ez] at hz
      obtain ⟨b', hb', rfl, hz⟩ := hz
      go_wp2_with fail
      exact bodyPost_ret (v := .tuple #[.pointer (some ⟨b', 0, none⟩), .int .i64 0]) (by simp [results, Try.results8, go_sem]) rfl ⟨hB3.out, by rw [ez]; exact ⟨b', Nat.le_trans hsz hb', rfl, hz⟩⟩
theorem two_limits (n : Int) (v v' : Value) (L : Lims) (w : World) (hv : LimS w v L) (hv' : LimS w v' L) (hi : ∀ k, k < L.q → -2147483648 ≤ L.b k ∧ L.b k ≤ 2147483647) (hq : L.q ≤ 9223372036854775807) : TwoSay w 8 #[.int .i64 n, v] 9 #[.int .i64 n, v'] := by
  by_cases h : 0 ≤ n ∧ n ≤ 8
  · obtain ⟨N, rfl⟩ := Int.eq_ofNat_of_zero_le h.1
    have N8 : N ≤ 8 := by omega
    by_cases q0 : L.q = 0
    · obtain ⟨ad, cap, rfl⟩ : ∃ ad cap, v = .slice ad 0 cap := by
        rcases hv with ⟨ad, c, rfl, _⟩ | ⟨b, off, cap, rfl, _⟩
        · exact ⟨ad, c, rfl⟩
        · exact ⟨_, cap, by rw [q0]⟩
      obtain ⟨ad', cap', rfl⟩ : ∃ ad cap, v' = .slice ad 0 cap := by
        rcases hv' with ⟨ad, c, rfl, _⟩ | ⟨b, off, cap, rfl, _⟩
        · exact ⟨ad, c, rfl⟩
        · exact ⟨_, cap, by rw [q0]⟩
      exact two_of_option N8 _ (fun w' _ => limits_zero N cap ad w' N8) (fun w' _ => rlimits_zero N _ cap' ad' w' N8 rfl)
    · obtain ⟨b, off, cap, rfl, lt, hc⟩ : ∃ b off cap, v = .slice (some ⟨b, off, none⟩) L.q cap ∧ b < w.heap.size ∧ LimRow w b off L := by
        rcases hv with ⟨ad, c, rfl, h0⟩ | h
        · omega
        · exact h
      obtain ⟨b', off', cap', rfl, lt', hc'⟩ : ∃ b off cap, v' = .slice (some ⟨b, off, none⟩) L.q cap ∧ b < w.heap.size ∧ LimRow w b off L := by
        rcases hv' with ⟨ad, c, rfl, h0⟩ | h
        · omega
        · exact h
      have P := fun w' (hb : Below w.heap.size w w') => limits_main N b off cap L w' N8 (hc.later hb lt) (Nat.lt_of_lt_of_le lt hb.size) hi hq
      have R := fun w' (hb : Below w.heap.size w w') => rlimits_main N b' off' cap' _ L w' N8 rfl (hc'.later hb lt') (Nat.lt_of_lt_of_le lt' hb.size) hi hq
      cases ok : okAll N L L.q
      · refine .inl ⟨7, fun w' hb => (P w' hb).mono ?_, fun w' hb => (R w' hb).mono ?_⟩
        · rintro x w'' ⟨hb, ⟨-, h2⟩ | ⟨h2, -⟩⟩
          · exact ⟨h2, hb⟩
          · rw [ok] at h2; cases h2
        · rintro x w'' ⟨hb, ⟨-, h2⟩ | ⟨h2, -⟩⟩
          · exact ⟨h2, hb⟩
          · rw [ok] at h2; cases h2
      · refine two_of_option N8 (zoneR N (tlAll L L.q (startR N (N + 1) 0))) (fun w' hb => (P w' hb).mono ?_) (fun w' hb => (R w' hb).mono ?_)
        · rintro x w'' ⟨hb, ⟨h2, -⟩ | ⟨-, h2⟩⟩
          · rw [ok] at h2; cases h2
          · exact ⟨hb, h2⟩
        · rintro x w'' ⟨hb, ⟨h2, -⟩ | ⟨-, h2⟩⟩
          · rw [ok] at h2; cases h2
          · exact ⟨hb, h2⟩
  · exact .inl ⟨12, fun w' _ => (limits_clock n v w' h).mono fun x w'' ⟨a, b⟩ => ⟨a, by rw [b]; exact Below.refl _ _⟩, fun w' _ => (rlimits_clock n v' w' h).mono fun x w'' ⟨a, b⟩ => ⟨a, by rw [b]; exact Below.refl _ _⟩⟩
set_option maxHeartbeats 1000000 in
theorem same_rows (g1 o1 g2 o2 c1 c2 n : Nat) (l : List Int) (w : World) (h1 : RowAt w g1 o1 l) (h2 : RowAt w g2 o2 l) (hl : l.length = n) (hn : n ≤ 9223372036854775807) :
    Calls Try.prog 7 #[.slice (some ⟨g1, o1, none⟩) n c1, .slice (some ⟨g2, o2, none⟩) n c2] w fun e w' => e = .returned (.bool true) ∧ ∃ k, w' = w.drewN k := by
  have H1 : Hid (∀ j, j < n → w.cell? ⟨g1, o1 + j, none⟩ = some (.int .i32 (l.getD j 0))) := fun j hj => h1 j (by omega)
  have H2 : Hid (∀ j, j < n → w.cell? ⟨g2, o2 + j, none⟩ = some (.int .i32 (l.getD j 0))) := fun j hj => h2 j (by omega)
  clear h1 h2 hl
  have n1 : (n : Int) ≤ 9223372036854775807 := by omega
  go_enter Try.func7, Try.ntmps7
  go_wp2_with fail
  go_loopw [5] (fun s wr => ∃ (I k : Nat), I ≤ n ∧ s = .int .i64 I ∧ wr = w.drewN k) (fun s _ => n - (intOf s).toNat)
  case atStart => exact ⟨0, 0, by omega, rfl, rfl⟩
  case round =>
    obtain ⟨I, k, hI, rfl, rfl⟩ := hrel
    by_cases ci : I < n
    · have a1 := H1.out I ci
      have a2 := H2.out I ci
      have i0 : (0 : Int) ≤ (I : Int) := by omega
      have i1 : (I : Int) < (n : Int) := by omega
      generalize l.getD I 0 = x at *
      have cy : (x != x) = false := by simp
      go_wp2_with fail
      go_quiet (fail)
      go_wp2_with fail
      go_roundw
      case rel => exact ⟨I + 1, _, by omega, by go_num, rfl⟩
      case measure => simp [intOf]; omega
    · go_wp2_with fail
      go_ret
      exact ⟨rfl, _, rfl⟩
theorem same_empty (a b : Option Addr) (c1 c2 : Nat) (w : World) : Calls Try.prog 7 #[.slice a 0 c1, .slice b 0 c2] w fun e w' => e = .returned (.bool true) ∧ ∃ k, w' = w.drewN k := by
  go_enter Try.func7, Try.ntmps7
  go_wp2_with fail
  go_loopw [5] (fun s wr => s = .int .i64 0 ∧ wr = w) (fun s _ => 1)
  case atStart => exact ⟨rfl, rfl⟩
  case round =>
    obtain ⟨rfl, rfl⟩ := hrel
    go_wp2_with fail
    go_ret
    exact ⟨rfl, 0, rfl⟩
theorem same_slices (v v' : Value) (l : List Int) (w : World) (h : SliceAt w v l) (h' : SliceAt w v' l) (hn : l.length ≤ 9223372036854775807) : Calls Try.prog 7 #[v, v'] w fun e w' => e = .returned (.bool true) ∧ ∃ k, w' = w.drewN k := by
  by_cases q : l.length = 0
  · obtain ⟨ad, cap, rfl⟩ : ∃ ad cap, v = .slice ad 0 cap := by
      rcases h with ⟨ad, c, rfl, _⟩ | ⟨b, off, cap, rfl, _⟩
      · exact ⟨ad, c, rfl⟩
      · exact ⟨_, cap, by rw [q]⟩
    obtain ⟨ad', cap', rfl⟩ : ∃ ad cap, v' = .slice ad 0 cap := by
      rcases h' with ⟨ad, c, rfl, _⟩ | ⟨b, off, cap, rfl, _⟩
      · exact ⟨ad, c, rfl⟩
      · exact ⟨_, cap, by rw [q]⟩
    exact same_empty ad ad' cap cap' w
  · rcases h with ⟨ad, c, rfl, rfl⟩ | ⟨b, off, cap, rfl, hc⟩
    · simp at q
    · rcases h' with ⟨ad, c, rfl, rfl⟩ | ⟨b', off', cap', rfl, hc'⟩
      · simp at q
      · exact same_rows b off b' off' cap cap' _ l w hc hc' rfl hn
end Go.Proofs.Ytbcfaepmhlanjaa
