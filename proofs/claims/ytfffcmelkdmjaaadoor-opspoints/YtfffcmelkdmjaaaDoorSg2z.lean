/-
  Guards of the program: the limits of all guards, gathered; then Constrain.
-/
import Derived.Test.YtfffcmelkdmjaaaDoorSg1z
import Derived.Test.YtfffcmelkdmjaaaDoorTaz
import Derived.Test.YtfffcmelkdmjaaaDoorTbz
import Derived.Test.YtfffcmelkdmjaaaDoorZg
import Derived.Deep.DeepAppendWide
namespace Go.Proofs.YtfffcmelkdmjaaaDoor
open Go.RowKit
set_option linter.unusedVariables false
set_option maxRecDepth 100000
def gErr (L : Guas) : Nat → Int
  | 0 => 0
  | K + 1 => if gErr L K = 0 then gE (L.a K) (L.o K) (L.k K) (L.n K) else gErr L K
def gLs (L : Guas) : Nat → List Tri3
  | 0 => []
  | K + 1 => gLs L K ++ gT (L.a K) (L.o K) (L.k K) (L.n K)
theorem gErr_stay {L : Guas} {k : Nat} (h : gErr L k ≠ 0) : ∀ m, k ≤ m → gErr L m = gErr L k := by
  intro m hm
  induction m with
  | zero => obtain rfl : k = 0 := by omega
            rfl
  | succ m ih =>
    by_cases q : k = m + 1
    · subst q; rfl
    · have := ih (by omega)
      show (if gErr L m = 0 then _ else gErr L m) = _
      rw [if_neg (by rw [this]; exact h), this]
theorem gErr_down {L : Guas} {m : Nat} (h : gErr L m = 0) : ∀ k, k ≤ m → gErr L k = 0 := fun k hk => by
  by_cases e : gErr L k = 0
  · exact e
  · have := gErr_stay e m hk
    omega
theorem gErr_at {L : Guas} {m : Nat} (h : gErr L m = 0) (k : Nat) (hk : k < m) : gE (L.a k) (L.o k) (L.k k) (L.n k) = 0 := by
  have h1 := gErr_down h (k + 1) (by omega)
  have h0 := gErr_down h k (by omega)
  show gE _ _ _ _ = 0
  have : gErr L (k + 1) = if gErr L k = 0 then gE (L.a k) (L.o k) (L.k k) (L.n k) else gErr L k := rfl
  rw [h0, if_pos rfl] at this
  rw [← this]; exact h1
theorem gT_len (x o k n : Int) : 1 ≤ (gT x o k n).length ∧ (gT x o k n).length ≤ 2 := by
  unfold gT
  repeat' split
  all_goals simp
theorem gLs_len (L : Guas) : ∀ K, K ≤ (gLs L K).length ∧ (gLs L K).length ≤ 2 * K
  | 0 => ⟨Nat.le_refl _, Nat.le_refl _⟩
  | K + 1 => by
    have := gLs_len L K
    have := gT_len (L.a K) (L.o K) (L.k K) (L.n K)
    show K + 1 ≤ (gLs L K ++ gT _ _ _ _).length ∧ (gLs L K ++ gT _ _ _ _).length ≤ _
    rw [List.length_append]
    omega
theorem gT_small {x o k n : Int} (h : gE x o k n = 0) : ∀ t ∈ gT x o k n, -2097152 ≤ t.2.2 ∧ t.2.2 ≤ 2097153 := by
  have hn : -1048576 ≤ n ∧ n ≤ 1048576 := by
    unfold gE at h
    split at h
    · split at h
      · split at h
        · assumption
        · cases h
      · cases h
    · cases h
  intro t ht
  unfold gT at ht
  repeat' split at ht
  all_goals simp at ht
  all_goals first
    | (subst ht; simp only; omega)
    | (rcases ht with rfl | rfl <;> simp only <;> omega)
theorem gLs_small {L : Guas} : ∀ K, gErr L K = 0 → ∀ t ∈ gLs L K, -2097152 ≤ t.2.2 ∧ t.2.2 ≤ 2097153
  | 0, _, t, ht => by cases ht
  | K + 1, h, t, ht => by
    rcases List.mem_append.1 ht with ht | ht
    · exact gLs_small K (gErr_down h K (by omega)) t ht
    · exact gT_small (gErr_at h K (by omega)) t ht
def limsOf (T : List Tri3) : Lims := ⟨T.length, fun k => (T.getD k (0, 0, 0)).1, fun k => (T.getD k (0, 0, 0)).2.1, fun k => (T.getD k (0, 0, 0)).2.2⟩
theorem tc_at (T : List Tri3) : ∀ k, k < T.length → (tc T)[k * 3]? = some (.int .i64 (T.getD k (0, 0, 0)).1) ∧ (tc T)[k * 3 + 1]? = some (.int .i64 (T.getD k (0, 0, 0)).2.1) ∧ (tc T)[k * 3 + 2]? = some (.int .i32 (T.getD k (0, 0, 0)).2.2) := by
  induction T with
  | nil => intro k hk; cases hk
  | cons a l ih =>
    intro k hk
    have e : tc (a :: l) = .int .i64 a.1 :: .int .i64 a.2.1 :: .int .i32 a.2.2 :: tc l := rfl
    rw [e]
    cases k with
    | zero => exact ⟨rfl, rfl, rfl⟩
    | succ k =>
      obtain ⟨h0, h1, h2⟩ := ih k (by simpa using hk)
      rw [show (k + 1) * 3 = k * 3 + 3 by omega]
      exact ⟨h0, h1, h2⟩
theorem lims_small {L : Guas} {K : Nat} (h : gErr L K = 0) : ∀ k, k < (limsOf (gLs L K)).q → -2147483648 ≤ (limsOf (gLs L K)).b k ∧ (limsOf (gLs L K)).b k ≤ 2147483647 := fun k hk => by
  have hk' : k < (gLs L K).length := hk
  have mem : (gLs L K).getD k (0, 0, 0) ∈ gLs L K := by
    have e : (gLs L K).getD k (0, 0, 0) = (gLs L K)[k] := by simp [List.getD, hk']
    rw [e]; exact List.getElem_mem _
  have := gLs_small K h _ mem
  show -2147483648 ≤ ((gLs L K).getD k (0, 0, 0)).2.2 ∧ ((gLs L K).getD k (0, 0, 0)).2.2 ≤ 2147483647
  omega
theorem own_lims {w : World} {base : Nat} {E : TypeId} {u : Value} {T : List Tri3} (h : w.ownsRow base E 3 u T.length (tc T)) : ∃ ad cap, u = .slice ad T.length cap ∧ LimV w ad (limsOf T) ∧ (T.length = 0 ∨ ∃ g, ad = some ⟨g, 0, none⟩ ∧ g < w.heap.size) := by
  rcases h.2 with ⟨hv, h0⟩ | ⟨g, cap, cur, hv, hb, hg, _⟩
  · exact ⟨none, 0, by rw [h0]; exact hv, fun k hk => by have : k < T.length := hk; omega, .inl h0⟩
  · subst hv
    refine ⟨_, cap, rfl, fun k hk => ⟨g, 0, rfl, ?_⟩, .inr ⟨g, rfl, (h.lt g rfl).2⟩⟩
    have hk' : k < T.length := hk
    obtain ⟨h0, h1, h2⟩ := tc_at T k hk'
    rw [Nat.zero_add]
    exact ⟨(h.cellAt _ (by omega)).trans h0, (h.cellAt _ (by omega)).trans h1, (h.cellAt _ (by omega)).trans h2⟩
theorem tc_one (T : List Tri3) : ∀ u ∈ tc T, u.oneCell' = true := by
  intro u hu
  simp only [tc, List.mem_flatMap, List.mem_cons, List.not_mem_nil, or_false] at hu
  obtain ⟨t, -, h | h | h⟩ := hu <;> subst h <;> rfl
set_option maxHeartbeats 4000000 in
theorem con_zero (b n cap : Nat) (ad : Option Addr) (c : Row) (L : Lims) (w : World) (h : n ≤ 8) (hz : ZoneAt w b n c) (hc : C32 c) (hq : L.q = 0) :
    Calls Tryd.prog 27 #[.pointer (some ⟨b, 0, none⟩), .slice ad 0 cap] w fun e w' => ConOut w' w.heap.size n e L (oR n c ((n + 1) * (n + 1))) ∧ Below w.heap.size w w' := by
  have HD := hideD (odraft_any b n c w h hz)
  have H32 := hideD (oR_32 (n := n) (K := (n + 1) * (n + 1)) hc)
  generalize oR n c ((n + 1) * (n + 1)) = r at *
  have HO : Hid (∀ d r w', ODraft w' d n r → R32 r → w.heap.size ≤ w'.heap.size → _) := fun d r w' h1 h2 h3 => ozone_out d n w.heap.size r w' h h1 h2 h3
  have HF3 : Hid (∀ w' e, OpsOut w' w.heap.size n e r → ConOut w' w.heap.size n e L r) := fun w' e h3 => .inr (.inr ⟨by rw [hq]; rfl, by rw [hq]; rfl, by rw [hq]; exact h3⟩)
  clear hz hc hq
  go_enter Tryd.func27, Tryd.ntmps27
  go_wp2_with fail
  refine HD.out.mono ?_
  rintro e w2 ⟨⟨d, rfl, hd, hD2⟩, hb⟩
  have hD3 := hideD hD2
  have hB3 := hideD hb
  clear HD hD2 hb
  go_wp2_with fail
  go_loopw [17] (fun s wr => s = .int .i64 0 ∧ Hid (ODraft wr d n r) ∧ Hid (Below w.heap.size w wr)) (fun s _ => 0)
  case atStart => exact ⟨rfl, hD3, hB3⟩
  case round =>
    obtain ⟨rfl, hD4, hB4⟩ := hrel
    clear hD3 hB3
    go_wp2_with fail
    go_loopw [31] (fun s w3 => s = .int .i64 0 ∧ Hid (ODraft w3 d n r) ∧ Hid (Below w.heap.size w w3)) (fun s _ => 0)
    case atStart => exact ⟨rfl, hD4, hB4⟩
    case round =>
      obtain ⟨rfl, hD, hB⟩ := hrel
      clear hD4 hB4
      have HZ := hideD (HO.out d _ _ hD.out H32.out hB.out.size)
      clear hD
      go_wp2_with fail
      refine HZ.out.mono ?_
      rintro e w4 ⟨p, kk, rfl, ho, hb⟩
      go_wp2_with fail
      exact bodyPost_ret (v := .tuple #[.pointer p, .int .i64 kk]) (by simp [results, Tryd.results27, go_sem]) rfl ⟨HF3.out _ _ ho.out, beyondD hB.out hb.out⟩
end Go.Proofs.YtfffcmelkdmjaaaDoor
