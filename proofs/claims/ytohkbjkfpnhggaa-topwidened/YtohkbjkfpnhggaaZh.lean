/-
  The contracts of ops: free, limit, has, bounds, limitOf, exactly, settable.
-/
import Derived.Test.YtohkbjkfpnhggaaZg
import Derived.Test.YtohkbjkfpnhggaaTaPz
import Derived.Test.YtohkbjkfpnhggaaGaz
namespace Go.Proofs.Ytohkbjkfpnhggaa
open Go.RowKit
set_option linter.unusedVariables false
set_option maxRecDepth 100000
/-- Of what was there, only block d may have turned. -/
def OnlyB (d : Nat) (w w' : World) : Prop := w.heap.size ≤ w'.heap.size ∧ ∀ k, k < w.heap.size → k ≠ d → w'.heap[k]? = w.heap[k]?
theorem OnlyB.refl (d : Nat) (w : World) : OnlyB d w w := ⟨Nat.le_refl _, fun _ _ _ => rfl⟩
theorem OnlyB.trans {d : Nat} {a b c : World} (h : OnlyB d a b) (k : OnlyB d b c) : OnlyB d a c := ⟨Nat.le_trans h.1 k.1, fun i hi hd => (k.2 i (Nat.lt_of_lt_of_le hi h.1) hd).trans (h.2 i hi hd)⟩
theorem OnlyB.below {d : Nat} {w w' : World} (h : Below w.heap.size w w') : OnlyB d w w' := ⟨h.size, fun k hk _ => h.block k hk⟩
theorem OnlyB.set {d : Nat} {a w : World} (h : OnlyB d a w) {p : Addr} (hp : p.block = d) (v : Value) : OnlyB d a (w.setCell p v) := ⟨by rw [World.size_setCell]; exact h.1, fun k hk hd => by rw [Below.heap_setCell _ _ _ _ (by omega)]; exact h.2 k hk hd⟩
theorem OnlyB.drew {d : Nat} {a w : World} (h : OnlyB d a w) : OnlyB d a w.drew := ⟨h.1, h.2⟩
theorem OnlyB.cell {d : Nat} {w w' : World} (h : OnlyB d w w') {p : Addr} (hp : p.block < w.heap.size) (hd : p.block ≠ d) : w'.cell? p = w.cell? p := World.cell?_of_block (w := w) (h.2 p.block hp hd)
theorem OnlyB.frozen {d : Nat} {w w' : World} (h : OnlyB d w w') {p : Addr} (hp : p.block < w.heap.size) (hd : p.block ≠ d) : w'.frozen? p = w.frozen? p := World.frozen?_of_block (w := w) (h.2 p.block hp hd)
def freeS (x i : Nat) (r : Mat) : Mat := upd (upd r x i 2147483647) i x (upd r x i 2147483647 i 0)
def freeK (x : Nat) : Nat → Mat → Mat
  | 0, r => r
  | K + 1, r => freeS x K (freeK x K r)
theorem freeK_32 {x : Nat} {r : Mat} (h : R32 r) : ∀ K, R32 (freeK x K r)
  | 0 => h
  | K + 1 => by
    have h1 := (freeK_32 (x := x) h K).upd (i := x) (j := K) (v := 2147483647) (by omega) (by omega)
    exact h1.upd (h1 K 0).1 (h1 K 0).2
set_option maxHeartbeats 2000000 in
theorem free_any (b n x : Nat) (r : Mat) (w : World) (h : n ≤ 8) (hx : x ≤ 8) (hD : ODraft w b n r) :
    Calls Try.prog 86 #[.pointer (some ⟨b, 0, none⟩), .int .i64 x] w fun e w' => e = .returned (.tuple #[]) ∧ ODraft w' b n (freeK x (n + 1) r) ∧ Below b w w' ∧ OnlyB b w w' := by
  have HD := hideD hD
  have x0 : (0 : Int) ≤ (x : Int) := by omega
  have x9 : (x : Int) < 9 := by omega
  clear hD
  go_enter Try.func86, Try.ntmps86
  go_wp2_with fail
  go_loopw [4] (fun s wr => ∃ (K : Nat), K ≤ n + 1 ∧ s = .int .i64 (K : Int) ∧ Hid (ODraft wr b n (freeK x K r)) ∧ Hid (Below b w wr) ∧ Hid (OnlyB b w wr)) (fun s _ => n + 1 - (intOf s).toNat)
  case atStart => exact ⟨0, by omega, rfl, HD, Below.refl _ _, OnlyB.refl _ _⟩
  case round =>
    obtain ⟨K, hK, rfl, hD, hB, hO⟩ := hrel
    clear HD
    have q0 := hD.out.clocks
    by_cases ck : K ≤ n
    · have k9 : (K : Int) < 9 := by omega
      have q1 := hD.out.cell x K hx (by omega)
      have q2 := hD.out.free x K hx (by omega)
      have hD2 := hideD (hD.out.set (i := x) (j := K) hx (by omega) 2147483647)
      have hB2 := hideD (hB.out.setCell (p := at9 b x K) (Nat.le_refl _) (.int .i32 2147483647))
      have hO2 := hideD (hO.out.set (p := at9 b x K) rfl (.int .i32 2147483647))
      have nx : Hid (freeK x (K + 1) r = upd (upd (freeK x K r) x K 2147483647) K x (upd (freeK x K r) x K 2147483647 K 0)) := rfl
      generalize freeK x K r = s at *
      clear hD hB hO
      go_upto_region 4 with (fail)
      generalize wr.setCell (at9 b x K) (.int .i32 2147483647) = w2 at *
      clear q0 q1 q2
      have q0 := hD2.out.clocks
      have q1 := hD2.out.cell K x (by omega) hx
      have q2 := hD2.out.free K x (by omega) hx
      have q3 : w2.cell? ⟨b, 1 + K * 9, none⟩ = some (.int .i32 (upd s x K 2147483647 K 0)) := hD2.out.cell K 0 (by omega) (by omega)
      have hD3 := hideD (hD2.out.set (i := K) (j := x) (by omega) hx (upd s x K 2147483647 K 0))
      have hB3 := hideD (hB2.out.setCell (p := at9 b K x) (Nat.le_refl _) (.int .i32 (upd s x K 2147483647 K 0)))
      have hO3 := hideD (hO2.out.set (p := at9 b K x) rfl (.int .i32 (upd s x K 2147483647 K 0)))
      rw [← nx.out] at hD3
      generalize upd s x K 2147483647 K 0 = y at *
      clear hD2 hB2 hO2
      go_big_region
      all_goals
        have hD4 := hideD (hD3.out.drew)
        have hB4 := hideD (hB3.out.drew)
        have hO4 := hideD (hO3.out.drew)
        go_wp2_with fail
        go_roundw
        case rel => exact ⟨K + 1, by omega, by go_num, by first | exact hD4 | exact hD3, by first | exact hB4 | exact hB3, by first | exact hO4 | exact hO3⟩
        case measure => simp [intOf]; omega
    · have eK : K = n + 1 := by omega
      subst eK
      go_wp2_with fail
      go_end0
      exact ⟨rfl, hD.out, hB.out, hO.out⟩
end Go.Proofs.Ytohkbjkfpnhggaa

/-
  The contracts of ops: has, exactly, settable.
-/
namespace Go.Proofs.Ytohkbjkfpnhggaa
open Go.RowKit
set_option linter.unusedVariables false
set_option maxRecDepth 100000
/-- A slice of whole numbers reads so. -/
def IntsAt (w : World) (v : Value) (l : List Int) : Prop := (∃ ad c, v = .slice ad 0 c ∧ l = []) ∨ (∃ b off cap, v = .slice (some ⟨b, off, none⟩) l.length cap ∧ ∀ j, j < l.length → w.cell? ⟨b, off + j, none⟩ = some (.int .i64 (l.getD j 0)))
theorem IntsAt.past {w w' : World} {v : Value} {l : List Int} (h : IntsAt w v l) (hb : Below w.heap.size w w') : IntsAt w' v l := by
  rcases h with h | ⟨b, off, cap, rfl, hc⟩
  · exact .inl h
  · refine .inr ⟨b, off, cap, rfl, fun j hj => ?_⟩
    exact kc _ _ hb (hc j hj)
def clockB (n : Nat) (x : Int) : Bool := decide (1 ≤ x ∧ x ≤ n)
def hasA (n : Nat) (l : List Int) : Nat → Bool
  | 0 => true
  | k + 1 => hasA n l k && clockB n (l.getD k 0)
theorem hasA_false {n : Nat} {l : List Int} : ∀ {k : Nat} (m : Nat), k ≤ m → hasA n l k = false → hasA n l m = false := by
  intro k m h e
  induction m with
  | zero => obtain rfl : k = 0 := by omega
            exact e
  | succ m ih =>
    by_cases q : k = m + 1
    · subst q; exact e
    · simp [hasA, ih (by omega)]
theorem hasA_at {n : Nat} {l : List Int} {m : Nat} (h : hasA n l m = true) (k : Nat) (hk : k < m) : 1 ≤ l.getD k 0 ∧ l.getD k 0 ≤ n := by
  induction m with
  | zero => omega
  | succ m ih =>
    simp only [hasA, Bool.and_eq_true] at h
    by_cases q : k = m
    · subst q
      simpa [clockB] using h.2
    · exact ih h.1 (by omega)
set_option maxHeartbeats 1000000 in
theorem ohas_main (n b off cap q : Nat) (l : List Int) (w : World) (hn : n ≤ 8) (hq : l.length = q) (hby : q ≤ 9223372036854775807) (hc : ∀ j, j < q → w.cell? ⟨b, off + j, none⟩ = some (.int .i64 (l.getD j 0))) :
    Calls Try.prog 85 #[.agg #[.int .i64 n], .slice (some ⟨b, off, none⟩) q cap] w fun e w' => e = .returned (.bool (hasA n l q)) ∧ Below w.heap.size w w' := by
  have HC : Hid (∀ w', Below w.heap.size w w' → ∀ j, j < q → w'.cell? ⟨b, off + j, none⟩ = some (.int .i64 (l.getD j 0))) := fun w' hb j hj => kc _ _ hb (hc j hj)
  have B0 := hideD (below_one w (.cells #[.int .i64 n] 75))
  clear hc hq
  go_enter Try.func85, Try.ntmps85
  go_wp2_with fail
  have c0 : (w.alloc (.cells #[.int .i64 n] 75)).cell? ⟨w.heap.size, 0, none⟩ = some (.int .i64 n) := by simp [go_sem]
  generalize w.alloc (.cells #[.int .i64 n] 75) = w1 at *
  go_loopw [9] (fun s wr => ∃ (K : Nat), K ≤ q ∧ s = .int .i64 (K : Int) ∧ Hid (hasA n l K = true) ∧ wr = w1) (fun s _ => q - (intOf s).toNat)
  case atStart => exact ⟨0, by omega, rfl, rfl, rfl⟩
  case round =>
    obtain ⟨K, hK, rfl, hA, rfl⟩ := hrel
    by_cases ck : K < q
    · have k0 : (0 : Int) ≤ (K : Int) := by omega
      have k1 : (K : Int) < (q : Int) := by omega
      have c1 := HC.out _ B0.out K ck
      have st : Hid (hasA n l (K + 1) = clockB n (l.getD K 0)) := by show _ = _; simp [hasA, hA.out]
      generalize l.getD K 0 = x at *
      by_cases x1 : x < 1
      · have st3 : Hid (hasA n l q = false) := hasA_false (k := K + 1) q (by omega) (by rw [st.out]; simp [clockB]; omega)
        clear st
        go_wp2_with fail
        go_ret
        exact ⟨by rw [st3.out]; rfl, B0.out⟩
      · by_cases x2 : (n : Int) < x
        · have st3 : Hid (hasA n l q = false) := hasA_false (k := K + 1) q (by omega) (by rw [st.out]; simp [clockB]; omega)
          clear st
          go_wp2_with fail
          go_ret
          exact ⟨by rw [st3.out]; rfl, B0.out⟩
        · have st3 : Hid (hasA n l (K + 1) = true) := by show _ = _; rw [st.out]; simp [clockB]; omega
          clear st
          go_wp2_with fail
          go_roundw
          case rel => exact ⟨K + 1, by omega, by go_num, st3, by trivial⟩
          case measure => simp [intOf]; omega
    · have eK : K = q := by omega
      subst eK
      go_wp2_with fail
      go_ret
      exact ⟨by rw [hA.out]; rfl, B0.out⟩
theorem ohas_none (n c : Nat) (ad : Option Addr) (w : World) :
    Calls Try.prog 85 #[.agg #[.int .i64 n], .slice ad 0 c] w fun e w' => e = .returned (.bool true) ∧ Below w.heap.size w w' := by
  have B0 := hideD (below_one w (.cells #[.int .i64 n] 75))
  go_enter Try.func85, Try.ntmps85
  go_wp2_with fail
  generalize w.alloc (.cells #[.int .i64 n] 75) = w1 at *
  go_loopw [9] (fun s wr => s = .int .i64 0 ∧ wr = w1) (fun s _ => 1)
  case atStart => exact ⟨rfl, rfl⟩
  case round =>
    obtain ⟨rfl, rfl⟩ := hrel
    go_wp2_with fail
    go_ret
    exact ⟨rfl, B0.out⟩
theorem ohas_any (n : Nat) (v : Value) (l : List Int) (w : World) (hn : n ≤ 8) (hby : l.length ≤ 9223372036854775807) (hv : IntsAt w v l) :
    Calls Try.prog 85 #[.agg #[.int .i64 n], v] w fun e w' => e = .returned (.bool (hasA n l l.length)) ∧ Below w.heap.size w w' := by
  rcases hv with ⟨ad, c, rfl, rfl⟩ | ⟨b, off, cap, rfl, hc⟩
  · exact ohas_none n c ad w
  · exact ohas_main n b off cap l.length l w hn rfl hby hc
def setE (n : Nat) (x k : Int) : Int := if clockB n x then (if 0 ≤ k ∧ k ≤ 1048576 then 0 else 13) else 12
end Go.Proofs.Ytohkbjkfpnhggaa

/-
  The contracts of ops: Reset, Free.
-/
namespace Go.Proofs.Ytohkbjkfpnhggaa
open Go.RowKit
set_option linter.unusedVariables false
set_option maxRecDepth 100000
def limM (r : Mat) (i j : Nat) (v : Int) : Mat := upd r i j (min (r i j) v)
theorem limM_32 {r : Mat} (h : R32 r) {i j : Nat} {v : Int} (h0 : -2147483648 ≤ v) : R32 (limM r i j v) := h.upd (by have := (h i j).1; omega) (by have := (h i j).2; omega)
def rstM (n x : Nat) (k : Int) (r : Mat) : Nat → Mat
  | 0 => freeK x (n + 1) r
  | 1 => limM (freeK x (n + 1) r) x 0 (2 * k + 1)
  | _ => limM (limM (freeK x (n + 1) r) x 0 (2 * k + 1)) 0 x (-(2 * k) + 1)
end Go.Proofs.Ytohkbjkfpnhggaa

/-
  The contract of ops.Constrain.
-/
namespace Go.Proofs.Ytohkbjkfpnhggaa
open Go.RowKit
set_option linter.unusedVariables false
set_option maxRecDepth 100000
def bndB (n : Nat) (L : Lims) (k : Nat) : Bool := decide (0 ≤ L.i k ∧ L.i k ≤ n ∧ 0 ≤ L.j k ∧ L.j k ≤ n)
def bndA (n : Nat) (L : Lims) : Nat → Bool
  | 0 => true
  | k + 1 => bndA n L k && bndB n L k
def rgtA (L : Lims) : Nat → Bool
  | 0 => true
  | k + 1 => rgtA L k && rightB (L.b k)
theorem bndA_false {n : Nat} {L : Lims} : ∀ {k : Nat} (m : Nat), k ≤ m → bndA n L k = false → bndA n L m = false := by
  intro k m h e
  induction m with
  | zero => obtain rfl : k = 0 := by omega
            exact e
  | succ m ih =>
    by_cases q : k = m + 1
    · subst q; exact e
    · simp [bndA, ih (by omega)]
theorem bndA_at {n : Nat} {L : Lims} {m : Nat} (h : bndA n L m = true) (k : Nat) (hk : k < m) : bndB n L k = true := by
  induction m with
  | zero => omega
  | succ m ih =>
    simp only [bndA, Bool.and_eq_true] at h
    by_cases q : k = m
    · subst q
      exact h.2
    · exact ih h.1 (by omega)
theorem rgtA_false {L : Lims} : ∀ {k : Nat} (m : Nat), k ≤ m → rgtA L k = false → rgtA L m = false := by
  intro k m h e
  induction m with
  | zero => obtain rfl : k = 0 := by omega
            exact e
  | succ m ih =>
    by_cases q : k = m + 1
    · subst q; exact e
    · simp [rgtA, ih (by omega)]
theorem rgtA_at {L : Lims} {m : Nat} (h : rgtA L m = true) (k : Nat) (hk : k < m) : rightB (L.b k) = true := by
  induction m with
  | zero => omega
  | succ m ih =>
    simp only [rgtA, Bool.and_eq_true] at h
    by_cases q : k = m
    · subst q
      exact h.2
    · exact ih h.1 (by omega)
def limO (L : Lims) : Nat → Mat → Mat
  | 0, r => r
  | k + 1, r => limM (limO L k r) (L.i k).toNat (L.j k).toNat (L.b k)
theorem limK_32 {L : Lims} {r : Mat} (h : R32 r) : ∀ (K : Nat), (∀ k, k < K → -2147483648 ≤ L.b k) → R32 (limO L K r)
  | 0, _ => h
  | K + 1, hb => limM_32 (limK_32 h K fun k hk => hb k (by omega)) (hb K (by omega))
/-- What Constrain tells: an error, or the draft's zone. -/
def ConOut (w' : World) (B n : Nat) (e : Ending) (L : Lims) (r : Mat) : Prop :=
  (bndA n L L.q = false ∧ e = errOf 12) ∨ (bndA n L L.q = true ∧ rgtA L L.q = false ∧ e = errOf 2) ∨ (bndA n L L.q = true ∧ rgtA L L.q = true ∧ OpsOut w' B n e (limO L L.q r))
end Go.Proofs.Ytohkbjkfpnhggaa

/-
  What must be whatever is asked (live of the statements of ops).
-/
namespace Go.Proofs.Ytohkbjkfpnhggaa
open Go.RowKit
set_option linter.unusedVariables false
set_option maxRecDepth 100000
theorem narB_32 (x : Int) : -2147483648 ≤ narB x ∧ narB x ≤ 2147483647 := by
  unfold narB
  split
  · omega
  · split <;> omega
theorem zoneR_32 {n : Nat} {r : Mat} {c : Row} (h : zoneR n r = some c) : C32 c := by
  intro k
  unfold zoneR at h
  split at h
  · injection h with h
    subst h
    show -2147483648 ≤ (0 : Int) ∧ (0 : Int) ≤ 2147483647
    omega
  · split at h
    · injection h with h
      subst h
      show -2147483648 ≤ cellsUpto _ _ _ k ∧ cellsUpto _ _ _ k ≤ 2147483647
      unfold cellsUpto
      split
      · exact narB_32 _
      · omega
    · cases h
theorem out_zone {w' : World} {B n : Nat} {e : Ending} {r : Mat} {l l2 : List Int} (h : OpsOut w' B n e r) (hl : rowsL n r (n + 1) = l) (ha : allRight l ((n + 1) * (n + 1)) = true) (hz : (zoneR n (tgAll n l ((n + 1) * (n + 1)) (startR n (n + 1) 0))).map (fun c => listOf c ((n + 1) * (n + 1))) = some l2) :
    ∃ b c, B ≤ b ∧ e = .returned (.tuple #[.pointer (some ⟨b, 0, none⟩), .int .i64 0]) ∧ ZoneAt w' b n c ∧ C32 c ∧ listOf c ((n + 1) * (n + 1)) = l2 := by
  rcases h with ⟨h1, -⟩ | ⟨-, h2⟩
  · rw [hl, ha] at h1
    cases h1
  · rw [hl] at h2
    cases ez : zoneR n (tgAll n l ((n + 1) * (n + 1)) (startR n (n + 1) 0)) with
    | none => rw [ez] at hz; cases hz
    | some c =>
      rw [ez] at h2 hz
      obtain ⟨b, hb, rfl, hZ⟩ := h2
      exact ⟨b, c, hb, rfl, hZ, zoneR_32 ez, by simpa using hz⟩
end Go.Proofs.Ytohkbjkfpnhggaa
