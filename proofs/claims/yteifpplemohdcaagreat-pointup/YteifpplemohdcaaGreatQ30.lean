/-
  gnomonmem.HandGuards: a copy with marked room behind its end; SameGuards, KeptGuards.
-/
import Derived.Test.YteifpplemohdcaaGreatQ21
import Derived.Deep.OwnRows
import Derived.Test.YteifpplemohdcaaGreatQ24
import Derived.Test.YteifpplemohdcaaGreatQ4
import Derived.Test.YteifpplemohdcaaGreatQ22
import Derived.Test.YteifpplemohdcaaGreatQ27
import Derived.Deep.DeepAppendWide
namespace Go.Proofs.YteifpplemohdcaaGreat
open Go.RowKit
set_option linter.unusedVariables false
/-- Guards: how many; clock, other, comparison, number. -/
structure Guas where
  q : Nat
  a : Nat → Int
  o : Nat → Int
  k : Nat → Int
  n : Nat → Int
/-- Guards behind a slice's address. -/
def GuaV (w : World) (ad : Option Addr) (L : Guas) : Prop := ∀ k, k < L.q → ∃ b off, ad = some ⟨b, off, none⟩ ∧ w.cell? ⟨b, off + k * 4, none⟩ = some (.int .i64 (L.a k)) ∧ w.cell? ⟨b, off + k * 4 + 1, none⟩ = some (.int .i64 (L.o k)) ∧ w.cell? ⟨b, off + k * 4 + 2, none⟩ = some (.int .u8 (L.k k)) ∧ w.cell? ⟨b, off + k * 4 + 3, none⟩ = some (.int .i64 (L.n k))
theorem GuaV.past {w w' : World} {ad : Option Addr} {L : Guas} (h : GuaV w ad L) (hb : Below w.heap.size w w') : GuaV w' ad L := fun k hk => by
  obtain ⟨b, off, e, c1, c2, c3, c4⟩ := h k hk
  exact ⟨b, off, e, kc _ _ hb c1, kc _ _ hb c2, kc _ _ hb c3, kc _ _ hb c4⟩
end Go.Proofs.YteifpplemohdcaaGreat

/-
  The document's Limits without limits, Universe, Zero; rows of limits as cells; Dim and Empty.
-/
namespace Go.Proofs.YteifpplemohdcaaGreat
open Go.RowKit
set_option linter.unusedVariables false
set_option maxRecDepth 100000
/-! ### Rows of limits, cell by cell -/
theorem info_lim : (Tryz.prog.info? 95).map (fun i => (i.zero, i.size, i.bytes)) = some (some (.agg #[.int .i64 0, .int .i64 0, .int .i32 0]), 3, 24) := by kernel_rfl
theorem info3 {P : Program} {e : TypeId} {z : Value} {s b : Nat} (h : (P.info? e).map (fun i => (i.zero, i.size, i.bytes)) = some (some z, s, b)) : ∃ i, P.info? e = some i ∧ i.zero = some z ∧ i.size = s ∧ i.bytes = b := by
  obtain ⟨i, hi, hz⟩ := Option.map_eq_some_iff.1 h
  simp only [Prod.mk.injEq] at hz
  exact ⟨i, hi, hz.1, hz.2.1, hz.2.2⟩
/-! ### The document's Limits without limits -/
/-! ### Zero -/
/-! ### Dim, Empty, and nil -/
end Go.Proofs.YteifpplemohdcaaGreat

/-
  gnomonmem.HandLimits: a copy with marked room behind its end; SameLimits, KeptLimits.
-/
namespace Go.Proofs.YteifpplemohdcaaGreat
open Go.RowKit
set_option linter.unusedVariables false
/-- Limits behind a slice's address. -/
def LimV (w : World) (ad : Option Addr) (L : Lims) : Prop := ∀ k, k < L.q → ∃ b off, ad = some ⟨b, off, none⟩ ∧ w.cell? ⟨b, off + k * 3, none⟩ = some (.int .i64 (L.i k)) ∧ w.cell? ⟨b, off + k * 3 + 1, none⟩ = some (.int .i64 (L.j k)) ∧ w.cell? ⟨b, off + k * 3 + 2, none⟩ = some (.int .i32 (L.b k))
theorem LimV.row {w : World} {g : Nat} {L : Lims} (h : LimV w (some ⟨g, 0, none⟩) L) : LimRow w g 0 L := fun k hk => by
  obtain ⟨b, off, e, c1, c2, c3⟩ := h k hk
  injection e with e
  injection e with e1 e2
  subst e1
  subst e2
  exact ⟨c1, c2, c3⟩
end Go.Proofs.YteifpplemohdcaaGreat

/-
  Guards of the program: the limits of all guards, gathered; then Constrain.
-/
namespace Go.Proofs.YteifpplemohdcaaGreat
open Go.RowKit
set_option linter.unusedVariables false
set_option maxRecDepth 100000
def gErr (L : Guas) : Nat → Int
  | 0 => 0
  | K + 1 => if gErr L K = 0 then gE (L.a K) (L.o K) (L.k K) (L.n K) else gErr L K
def gLs (L : Guas) : Nat → List Tri3
  | 0 => []
  | K + 1 => gLs L K ++ gT (L.a K) (L.o K) (L.k K) (L.n K)
theorem gErr_stay {L : Guas} {k : Nat} (h : gErr L k ≠ 0) : ∀ m, k ≤ m → gErr L m = gErr L k := by
  intro m hm
  induction m with
  | zero => obtain rfl : k = 0 := by omega
            rfl
  | succ m ih =>
    by_cases q : k = m + 1
    · subst q; rfl
    · have := ih (by omega)
      show (if gErr L m = 0 then _ else gErr L m) = _
      rw [if_neg (by rw [this]; exact h), this]
theorem gErr_down {L : Guas} {m : Nat} (h : gErr L m = 0) : ∀ k, k ≤ m → gErr L k = 0 := fun k hk => by
  by_cases e : gErr L k = 0
  · exact e
  · have := gErr_stay e m hk
    omega
theorem gErr_at {L : Guas} {m : Nat} (h : gErr L m = 0) (k : Nat) (hk : k < m) : gE (L.a k) (L.o k) (L.k k) (L.n k) = 0 := by
  have h1 := gErr_down h (k + 1) (by omega)
  have h0 := gErr_down h k (by omega)
  show gE _ _ _ _ = 0
  have : gErr L (k + 1) = if gErr L k = 0 then gE (L.a k) (L.o k) (L.k k) (L.n k) else gErr L k := rfl
  rw [h0, if_pos rfl] at this
  rw [← this]; exact h1
theorem gT_len (x o k n : Int) : 1 ≤ (gT x o k n).length ∧ (gT x o k n).length ≤ 2 := by
  unfold gT
  repeat' split
  all_goals simp
theorem gLs_len (L : Guas) : ∀ K, K ≤ (gLs L K).length ∧ (gLs L K).length ≤ 2 * K
  | 0 => ⟨Nat.le_refl _, Nat.le_refl _⟩
  | K + 1 => by
    have := gLs_len L K
    have := gT_len (L.a K) (L.o K) (L.k K) (L.n K)
    show K + 1 ≤ (gLs L K ++ gT _ _ _ _).length ∧ (gLs L K ++ gT _ _ _ _).length ≤ _
    rw [List.length_append]
    omega
theorem gT_small {x o k n : Int} (h : gE x o k n = 0) : ∀ t ∈ gT x o k n, -2097152 ≤ t.2.2 ∧ t.2.2 ≤ 2097153 := by
  have hn : -1048576 ≤ n ∧ n ≤ 1048576 := by
    unfold gE at h
    split at h
    · split at h
      · split at h
        · assumption
        · cases h
      · cases h
    · cases h
  intro t ht
  unfold gT at ht
  repeat' split at ht
  all_goals simp at ht
  all_goals first
    | (subst ht; simp only; omega)
    | (rcases ht with rfl | rfl <;> simp only <;> omega)
theorem gLs_small {L : Guas} : ∀ K, gErr L K = 0 → ∀ t ∈ gLs L K, -2097152 ≤ t.2.2 ∧ t.2.2 ≤ 2097153
  | 0, _, t, ht => by cases ht
  | K + 1, h, t, ht => by
    rcases List.mem_append.1 ht with ht | ht
    · exact gLs_small K (gErr_down h K (by omega)) t ht
    · exact gT_small (gErr_at h K (by omega)) t ht
def limsOf (T : List Tri3) : Lims := ⟨T.length, fun k => (T.getD k (0, 0, 0)).1, fun k => (T.getD k (0, 0, 0)).2.1, fun k => (T.getD k (0, 0, 0)).2.2⟩
theorem otc_at (T : List Tri3) : ∀ k, k < T.length → (tc T)[k * 3]? = some (.int .i64 (T.getD k (0, 0, 0)).1) ∧ (tc T)[k * 3 + 1]? = some (.int .i64 (T.getD k (0, 0, 0)).2.1) ∧ (tc T)[k * 3 + 2]? = some (.int .i32 (T.getD k (0, 0, 0)).2.2) := by
  induction T with
  | nil => intro k hk; cases hk
  | cons a l ih =>
    intro k hk
    have e : tc (a :: l) = .int .i64 a.1 :: .int .i64 a.2.1 :: .int .i32 a.2.2 :: tc l := rfl
    rw [e]
    cases k with
    | zero => exact ⟨rfl, rfl, rfl⟩
    | succ k =>
      obtain ⟨h0, h1, h2⟩ := ih k (by simpa using hk)
      rw [show (k + 1) * 3 = k * 3 + 3 by omega]
      exact ⟨h0, h1, h2⟩
theorem lims_small {L : Guas} {K : Nat} (h : gErr L K = 0) : ∀ k, k < (limsOf (gLs L K)).q → -2147483648 ≤ (limsOf (gLs L K)).b k ∧ (limsOf (gLs L K)).b k ≤ 2147483647 := fun k hk => by
  have hk' : k < (gLs L K).length := hk
  have mem : (gLs L K).getD k (0, 0, 0) ∈ gLs L K := by
    have e : (gLs L K).getD k (0, 0, 0) = (gLs L K)[k] := by simp [List.getD, hk']
    rw [e]; exact List.getElem_mem _
  have := gLs_small K h _ mem
  show -2147483648 ≤ ((gLs L K).getD k (0, 0, 0)).2.2 ∧ ((gLs L K).getD k (0, 0, 0)).2.2 ≤ 2147483647
  omega
theorem own_lims {w : World} {base : Nat} {E : TypeId} {u : Value} {T : List Tri3} (h : w.ownsRow base E 3 u T.length (tc T)) : ∃ ad cap, u = .slice ad T.length cap ∧ LimV w ad (limsOf T) ∧ (T.length = 0 ∨ ∃ g, ad = some ⟨g, 0, none⟩ ∧ g < w.heap.size) := by
  rcases h.2 with ⟨hv, h0⟩ | ⟨g, cap, cur, hv, hb, hg, _⟩
  · exact ⟨none, 0, by rw [h0]; exact hv, fun k hk => by have : k < T.length := hk; omega, .inl h0⟩
  · subst hv
    refine ⟨_, cap, rfl, fun k hk => ⟨g, 0, rfl, ?_⟩, .inr ⟨g, rfl, (h.lt g rfl).2⟩⟩
    have hk' : k < T.length := hk
    obtain ⟨h0, h1, h2⟩ := otc_at T k hk'
    rw [Nat.zero_add]
    exact ⟨(h.cellAt _ (by omega)).trans h0, (h.cellAt _ (by omega)).trans h1, (h.cellAt _ (by omega)).trans h2⟩
theorem tc_one (T : List Tri3) : ∀ u ∈ tc T, u.oneCell' = true := by
  intro u hu
  simp only [tc, List.mem_flatMap, List.mem_cons, List.not_mem_nil, or_false] at hu
  obtain ⟨t, -, h | h | h⟩ := hu <;> subst h <;> rfl
set_option maxHeartbeats 4000000 in
theorem con_zero (b n cap : Nat) (ad : Option Addr) (c : Row) (L : Lims) (w : World) (h : n ≤ 8) (hz : ZoneAt w b n c) (hc : C32 c) (hq : L.q = 0) :
    Calls Tryz.prog 103 #[.pointer (some ⟨b, 0, none⟩), .slice ad 0 cap] w fun e w' => ConOut w' w.heap.size n e L (oR n c ((n + 1) * (n + 1))) ∧ Below w.heap.size w w' := by
  have HD := hideD (odraft_any b n c w h hz)
  have H32 := hideD (oR_32 (n := n) (K := (n + 1) * (n + 1)) hc)
  generalize oR n c ((n + 1) * (n + 1)) = r at *
  have HO : Hid (∀ d r w', ODraft w' d n r → R32 r → w.heap.size ≤ w'.heap.size → _) := fun d r w' h1 h2 h3 => ozone_out d n w.heap.size r w' h h1 h2 h3
  have HF3 : Hid (∀ w' e, OpsOut w' w.heap.size n e r → ConOut w' w.heap.size n e L r) := fun w' e h3 => .inr (.inr ⟨by rw [hq]; rfl, by rw [hq]; rfl, by rw [hq]; exact h3⟩)
  clear hz hc hq
  go_enter Tryz.func103, Tryz.ntmps103
  go_wp2_with fail
  refine HD.out.mono ?_
  rintro e w2 ⟨⟨d, rfl, hd, hD2⟩, hb⟩
  have hD3 := hideD hD2
  have hB3 := hideD hb
  clear HD hD2 hb
  go_wp2_with fail
  go_loopw [17] (fun s wr => s = .int .i64 0 ∧ Hid (ODraft wr d n r) ∧ Hid (Below w.heap.size w wr)) (fun s _ => 0)
  case atStart => exact ⟨rfl, hD3, hB3⟩
  case round =>
    obtain ⟨rfl, hD4, hB4⟩ := hrel
    clear hD3 hB3
    go_wp2_with fail
    go_loopw [31] (fun s w3 => s = .int .i64 0 ∧ Hid (ODraft w3 d n r) ∧ Hid (Below w.heap.size w w3)) (fun s _ => 0)
    case atStart => exact ⟨rfl, hD4, hB4⟩
    case round =>
      obtain ⟨rfl, hD, hB⟩ := hrel
      clear hD4 hB4
      have HZ := hideD (HO.out d _ _ hD.out H32.out hB.out.size)
      clear hD
      go_wp2_with fail
      refine HZ.out.mono ?_
      rintro e w4 ⟨p, kk, rfl, ho, hb⟩
      go_wp2_with fail
      exact bodyPost_ret (v := .tuple #[.pointer p, .int .i64 kk]) (by simp [results, Tryz.results103, go_sem]) rfl ⟨HF3.out _ _ ho.out, beyondD hB.out hb.out⟩
end Go.Proofs.YteifpplemohdcaaGreat

/-
  Guards by the program and by the document.
-/
namespace Go.Proofs.YteifpplemohdcaaGreat
open Go.RowKit
set_option linter.unusedVariables false
set_option maxRecDepth 100000
theorem ops_mono {w' : World} {B B' n : Nat} {e : Ending} {M : Mat} (h : OpsOut w' B n e M) (hB : B' ≤ B) : OpsOut w' B' n e M := by
  rcases h with h | ⟨h1, h2⟩
  · exact .inl h
  · refine .inr ⟨h1, ?_⟩
    generalize zoneR n (tgAll n (rowsL n M (n + 1)) ((n + 1) * (n + 1)) (startR n (n + 1) 0)) = o at *
    cases o with
    | none => exact h2
    | some c => obtain ⟨b, k1, k2⟩ := h2; exact ⟨b, Nat.le_trans hB k1, k2⟩
theorem con_mono {w' : World} {B B' n : Nat} {e : Ending} {L : Lims} {M : Mat} (h : ConOut w' B n e L M) (hB : B' ≤ B) : ConOut w' B' n e L M := by
  rcases h with h | h | ⟨h1, h2, h3⟩
  · exact .inl h
  · exact .inr (.inl h)
  · exact .inr (.inr ⟨h1, h2, ops_mono h3 hB⟩)
/-- Constrain, of a row of limits of the call's own. -/
theorem con_own {b n : Nat} {u : Value} {c : Row} {T : List Tri3} {w : World} {base : Nat} {E : TypeId} (h : n ≤ 8) (hz : ZoneAt w b n c) (hc : C32 c) (ho : w.ownsRow base E 3 u T.length (tc T)) (hi : ∀ k, k < (limsOf T).q → -2147483648 ≤ (limsOf T).b k ∧ (limsOf T).b k ≤ 2147483647) (hq : T.length ≤ 9223372036854775807) :
    Calls Tryz.prog 103 #[.pointer (some ⟨b, 0, none⟩), u] w fun e w' => ConOut w' w.heap.size n e (limsOf T) (oR n c ((n + 1) * (n + 1))) ∧ Below w.heap.size w w' := by
  obtain ⟨ad, cap, rfl, hV, h0 | ⟨g, rfl, hg⟩⟩ := own_lims ho
  · rw [h0]
    exact con_zero b n cap ad c (limsOf T) w h hz hc h0
  · exact con_main b n g 0 cap c (limsOf T) w h hz hc hV.row hg hi hq
theorem con_form {w' : World} {B n : Nat} {e : Ending} {L : Lims} {M : Mat} (h : ConOut w' B n e L M) : ∃ p k, e = .returned (.tuple #[.pointer p, .int .i64 k]) := by
  rcases h with ⟨-, h⟩ | ⟨-, -, h⟩ | ⟨-, -, h⟩
  · exact ⟨_, _, h⟩
  · exact ⟨_, _, h⟩
  · exact h.form
/-- What Guards tells: an error of a guard, or what Constrain tells. -/
def GuaOut (w' : World) (B n : Nat) (e : Ending) (L : Guas) (M : Mat) : Prop := (¬ gErr L L.q = 0 ∧ e = errOf (gErr L L.q)) ∨ (gErr L L.q = 0 ∧ ConOut w' B n e (limsOf (gLs L L.q)) M)
set_option maxHeartbeats 8000000 in
theorem guards_main (b n q cap : Nat) (ad : Option Addr) (c : Row) (L : Guas) (w : World) (h : n ≤ 8) (hz : ZoneAt w b n c) (hc : C32 c) (hL : L.q = q) (hV : GuaV w ad L) (hk : ∀ k, k < L.q → 0 ≤ L.k k ∧ L.k k < 256) (hq : q * 32 ≤ 140737488355328) :
    Calls Tryz.prog 33 #[.pointer (some ⟨b, 0, none⟩), .slice ad q cap] w fun e w' => GuaOut w' w.heap.size n e L (oR n c ((n + 1) * (n + 1))) ∧ Below w.heap.size w w' := by
  have HV : Hid (∀ w', Below w.heap.size w w' → ∀ k, k < q → ∃ b off, ad = some ⟨b, off, none⟩ ∧ w'.cell? ⟨b, off + k * 4, none⟩ = some (.int .i64 (L.a k)) ∧ w'.cell? ⟨b, off + k * 4 + 1, none⟩ = some (.int .i64 (L.o k)) ∧ w'.cell? ⟨b, off + k * 4 + 2, none⟩ = some (.int .u8 (L.k k)) ∧ w'.cell? ⟨b, off + k * 4 + 3, none⟩ = some (.int .i64 (L.n k))) := fun w' hb k hk => hV.past hb k (by omega)
  have HP : Hid (∀ k w', k < q → _) := fun k w' hk' => plim_any (L.a k) (L.o k) (L.k k) (L.n k) w' (hk k (by omega)).1 (hk k (by omega)).2
  have HC : Hid (∀ u w', Below w.heap.size w w' → gErr L q = 0 → w'.ownsRow w.heap.size 95 3 u (gLs L q).length (tc (gLs L q)) → Calls Tryz.prog 103 #[.pointer (some ⟨b, 0, none⟩), u] w' fun e w'' => (∃ p k, e = .returned (.tuple #[.pointer p, .int .i64 k]) ∧ Hid (GuaOut w'' w.heap.size n e L (oR n c ((n + 1) * (n + 1))))) ∧ Hid (Below w'.heap.size w' w'')) := fun u w' hb he ho => by
    refine (con_own h (hz.past hb) hc ho (lims_small he) (by have := gLs_len L q; omega)).mono fun e w'' ⟨h1, h2⟩ => ?_
    obtain ⟨p, k, e'⟩ := con_form h1
    exact ⟨⟨p, k, e', .inr ⟨by rw [hL]; exact he, by rw [hL]; exact con_mono h1 hb.size⟩⟩, h2⟩
  have HE : Hid (∀ w' k, k ≤ q → gErr L k ≠ 0 → GuaOut w' w.heap.size n (errOf (gErr L k)) L (oR n c ((n + 1) * (n + 1)))) := fun w' k hk he => by
    have := gErr_stay he q hk
    exact .inl ⟨by rw [hL, this]; exact he, by rw [hL, this]⟩
  have LE := hideD (gLs_len L)
  have NX : Hid (∀ k, gLs L (k + 1) = gLs L k ++ gT (L.a k) (L.o k) (L.k k) (L.n k)) := fun k => rfl
  have NE : Hid (∀ k, gErr L k = 0 → gErr L (k + 1) = gE (L.a k) (L.o k) (L.k k) (L.n k)) := fun k h => by show (if gErr L k = 0 then _ else _) = _; rw [if_pos h]
  obtain ⟨i0, hi0, hz0, hz1, hz2⟩ := info3 info_lim
  generalize oR n c ((n + 1) * (n + 1)) = M at *
  have q1 : (q : Int) ≤ 4398046511104 := by omega
  clear hz hc hV hk
  go_enter Tryz.func33, Tryz.ntmps33
  go_wp2_with fail
  go_loopw [6, 15] (fun u s wr => ∃ (K : Nat), K ≤ q ∧ s = .int .i64 (K : Int) ∧ Hid (gErr L K = 0) ∧ Hid (wr.ownsRow w.heap.size 95 3 u (gLs L K).length (tc (gLs L K))) ∧ Hid (Below w.heap.size w wr)) (fun _ s _ => q - (intOf s).toNat)
  case atStart => exact ⟨0, by omega, rfl, rfl, World.ownsRow_nil _ _ _ _, Below.refl _ _⟩
  case round =>
    obtain ⟨K, hK, rfl, hE, hown, hB⟩ := hrel
    by_cases ck : K < q
    · have k0 : (0 : Int) ≤ (K : Int) := by omega
      have k1 : (K : Int) < (q : Int) := by omega
      obtain ⟨gb, off, rfl, c0, c1, c2, c3⟩ := HV.out wr hB.out K ck
      have HPK := hideD (fun w' => HP.out K w' ck)
      have nx := hideD (NX.out K)
      have ne := hideD (NE.out K hE.out)
      have le := LE.out K
      have lt := gT_len (L.a K) (L.o K) (L.k K) (L.n K)
      have HEK := hideD (fun w' => HE.out w' (K + 1) (by omega))
      rw [ne.out] at HEK
      clear HV HP HE NX NE LE HC hE
      generalize L.a K = xa at *
      generalize L.o K = xo at *
      generalize L.k K = xk at *
      generalize L.n K = xn at *
      generalize gLs L K = T at *
      go_upto_region 7 with (fail)
      have d0 : (wr.alloc (.cells #[.int .i64 xa, .int .i64 xo, .int .u8 xk, .int .i64 xn] 88)).cell? ⟨wr.heap.size, 0, none⟩ = some (.int .i64 xa) := by simp [go_sem]
      have d1 : (wr.alloc (.cells #[.int .i64 xa, .int .i64 xo, .int .u8 xk, .int .i64 xn] 88)).cell? ⟨wr.heap.size, 1, none⟩ = some (.int .i64 xo) := by simp [go_sem]
      have d2 : (wr.alloc (.cells #[.int .i64 xa, .int .i64 xo, .int .u8 xk, .int .i64 xn] 88)).cell? ⟨wr.heap.size, 2, none⟩ = some (.int .u8 xk) := by simp [go_sem]
      have d3 : (wr.alloc (.cells #[.int .i64 xa, .int .i64 xo, .int .u8 xk, .int .i64 xn] 88)).cell? ⟨wr.heap.size, 3, none⟩ = some (.int .i64 xn) := by simp [go_sem]
      have b1 := hideD (below_one wr (.cells #[.int .i64 xa, .int .i64 xo, .int .u8 xk, .int .i64 xn] 88))
      generalize wr.alloc (.cells #[.int .i64 xa, .int .i64 xo, .int .u8 xk, .int .i64 xn] 88) = W at *
      clear c0 c1 c2 c3
      go_wp2_with fail
      refine (HPK.out _).mono ?_
      rintro e w2 ⟨hO, hb2⟩
      have B2 := hideD (beyondD (beyondD hB.out b1.out) hb2)
      have own2 := hideD (own_past (own_past hown.out b1.out) hb2)
      clear hown hB b1 hb2 d0 d1 d2 d3 HPK
      rcases hO with ⟨e1, rfl⟩ | ⟨e1, g, m, cp, rfl, gg, gl, rfl, hc⟩
      · have FIN := hideD (fun w' => HEK.out w' (by simpa using e1))
        generalize gE xa xo xk xn = E at *
        clear HEK
        go_wp2_with fail
        exact bodyPost_ret (v := .tuple #[.pointer none, .int .i64 E]) (by simp [results, Tryz.results33, go_sem]) rfl ⟨FIN.out _, B2.out⟩
      · have en := hideD (ne.out.trans e1)
        have HN : Hid (∀ j u, (tc (gT xa xo xk xn))[j]? = some u → w2.cell? ((⟨g, 0, none⟩ : Addr).add j) = some u) := by
          intro j u hj
          rw [Addr.add_lit, Nat.zero_add]
          exact hc j u hj
        have h1 := hideD (tc_one (gT xa xo xk xn))
        have hl := tc_len (gT xa xo xk xn)
        generalize gT xa xo xk xn = U at *
        have HL := hideD hl
        have hsz := B2.out.size
        clear hl hc e1 ne HEK gg gl
        generalize hn1 : T.length = n1 at *
        generalize hn2 : U.length = n2 at *
        have N1 := hideD hn1
        have N2 := hideD hn2
        clear hn1 hn2
        go_wp2_with (at_builtin; refine wpList_append_own_wide _ rfl _ _ 89 rfl w.heap.size 95 i0 (.agg #[.int .i64 0, .int .i64 0, .int .i32 0]) 3 24 Tryz.underlying89 hi0 hz0 hz1 hz2 rfl (by decide) _ n1 (tc T) rfl own2.out ⟨g, 0, none⟩ n2 cp (tc U) rfl HL.out HN.out h1.out (by unfold maxLen; omega) (by omega) (by omega) ?_; intro v' w5 hown' hgrow hnil)
        have hb5 : Below w.heap.size w w5 := B2.out.grown hgrow (by omega) (by intro q hq; exact (own2.out.lt q hq).1)
        have B5 := hideD hb5
        have own5 : Hid (w5.ownsRow w.heap.size 95 3 v' (gLs L (K + 1)).length (tc (gLs L (K + 1)))) := by
          show w5.ownsRow _ _ _ _ _ _
          rw [nx.out, tc_app, List.length_append, N1.out, N2.out]
          exact hown'
        clear hown' hgrow hnil hb5 own2 HN HL h1 nx
        exact ⟨⟨K + 1, by omega, by go_num, en, own5, B5⟩, by simp [intOf]; omega⟩
    · have k1 : ¬ ((K : Int) < (q : Int)) := by omega
      obtain rfl : K = q := by omega
      have HCK := hideD (HC.out _ wr hB.out hE.out hown.out)
      clear hown HV HP HE NX NE LE HC
      go_wp2_with fail
      refine HCK.out.mono ?_
      rintro e w4 ⟨⟨p, kk, rfl, ho⟩, hb⟩
      go_wp2_with fail
      exact bodyPost_ret (v := .tuple #[.pointer p, .int .i64 kk]) (by simp [results, Tryz.results33, go_sem]) rfl ⟨ho.out, beyondD hB.out hb.out⟩
end Go.Proofs.YteifpplemohdcaaGreat
