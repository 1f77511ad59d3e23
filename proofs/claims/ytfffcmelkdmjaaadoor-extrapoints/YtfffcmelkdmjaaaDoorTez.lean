/-
  The greatest numbers of rows, place by place, by both.
-/
import Derived.Test.YtfffcmelkdmjaaaDoorIhz
import Derived.Test.YtfffcmelkdmjaaaDoorIiz
import Derived.Test.YtfffcmelkdmjaaaDoorTcz
namespace Go.Proofs.YtfffcmelkdmjaaaDoor
open Go.RowKit
set_option linter.unusedVariables false
set_option maxRecDepth 100000
def gS (out : List Int) (k : Nat) (x : Int) : List Int := if k = out.length then out ++ [x] else out.set k (max (out.getD k 0) x)
def gR (row : List Int) : Nat → List Int → List Int
  | 0, out => out
  | K + 1, out => gS (gR row K out) K (row.getD K 0)
def gA (rows : Nat → List Int) : Nat → List Int
  | 0 => []
  | K + 1 => gR (rows K) (rows K).length (gA rows K)
theorem gR_ge (row : List Int) (out : List Int) : ∀ K, K ≤ (gR row K out).length
  | 0 => Nat.zero_le _
  | K + 1 => by
    have := gR_ge row out K
    show K + 1 ≤ (gS (gR row K out) K (row.getD K 0)).length
    unfold gS
    split
    · simp; omega
    · simp; omega
theorem gR_le (row : List Int) (out : List Int) (B : Nat) (h : out.length ≤ B) : ∀ K, K ≤ B → (gR row K out).length ≤ B
  | 0, _ => h
  | K + 1, hK => by
    have := gR_le row out B h K (by omega)
    show (gS (gR row K out) K (row.getD K 0)).length ≤ B
    unfold gS
    split
    · rename_i e; simp; omega
    · simp; omega
theorem gA_le (rows : Nat → List Int) (B : Nat) : ∀ K, (∀ k, k < K → (rows k).length ≤ B) → (gA rows K).length ≤ B
  | 0, _ => Nat.zero_le _
  | K + 1, h => gR_le _ _ B (gA_le rows B K fun k hk => h k (by omega)) _ (h K (by omega))
theorem own_sliceI {w : World} {base : Nat} {T : TypeId} {u : Value} {n : Nat} {xs : List Value} (h : w.ownsRow base T 1 u n xs) : ∃ a c, u = .slice a n c := by
  rcases h.2 with ⟨hv, h0⟩ | ⟨g, cap, cur, hv, _⟩
  · subst h0; exact ⟨_, _, hv⟩
  · exact ⟨_, _, hv⟩
theorem own_slice_pos {w : World} {base : Nat} {T : TypeId} {u : Value} {n : Nat} {xs : List Value} (h : w.ownsRow base T 1 u n xs) (hn : 0 < n) : ∃ g c, u = .slice (some ⟨g, 0, none⟩) n c := by
  rcases h.2 with ⟨hv, h0⟩ | ⟨g, cap, cur, hv, _⟩
  · omega
  · exact ⟨_, _, hv⟩
theorem one_int (w : World) (y : Int) : ∀ j u, [Value.int .i64 y][j]? = some u → (w.alloc (.cells #[.int .i64 y] 3)).cell? ((⟨w.heap.size, 0, none⟩ : Addr).add j) = some u := by
  intro j u hj
  rw [Addr.add_lit, World.cell?_alloc_at _ _ _ _ rfl]
  simpa using hj
theorem ints_cell {w : World} {base g c : Nat} {T : TypeId} {L : List Int} (h : w.ownsRow base T 1 (.slice (some ⟨g, 0, none⟩) L.length c) L.length (L.map (Value.int .i64))) {j : Nat} (hj : j < L.length) : w.cell? ⟨g, j, none⟩ = some (.int .i64 (L.getD j 0)) := by
  rw [h.cellAt j (by omega), List.getElem?_map]
  simp [List.getD, hj]
/-- A number stored in a row of the call's own. -/
theorem ints_set {w0 w : World} {g c : Nat} {T : TypeId} {L : List Int} (h : w.ownsRow w0.heap.size T 1 (.slice (some ⟨g, 0, none⟩) L.length c) L.length (L.map (Value.int .i64))) (hb : Below w0.heap.size w0 w) (j : Nat) (y : Int) :
    (w.setCell ⟨g, j, none⟩ (.int .i64 y)).ownsRow w0.heap.size T 1 (.slice (some ⟨g, 0, none⟩) (L.set j y).length c) (L.set j y).length ((L.set j y).map (Value.int .i64)) ∧ Below w0.heap.size w0 (w.setCell ⟨g, j, none⟩ (.int .i64 y)) := by
  refine ⟨?_, hb.setCell (p := ⟨g, j, none⟩) (h.lt g rfl).1 _⟩
  have := (h.stored j (.int .i64 y)).1
  rw [List.length_set, List.map_set]
  exact this
/-- Rows of numbers behind an address. -/
def RowsI (w : World) (ad : Option Addr) (q : Nat) (vs : Nat → Value) (rows : Nat → List Int) : Prop := ∀ k, k < q → ∃ g off, ad = some ⟨g, off, none⟩ ∧ w.cell? ⟨g, off + k, none⟩ = some (vs k) ∧ IntsAt w (vs k) (rows k) ∧ (rows k).length * 8 ≤ 140737488355328
set_option maxHeartbeats 8000000 in
theorem great_any (q cap : Nat) (ad : Option Addr) (vs : Nat → Value) (rows : Nat → List Int) (w : World) (hv : RowsI w ad q vs rows) (hq : q ≤ 1000) :
    Calls Tryd.prog 71 #[.slice ad q cap] w fun e w' => (∃ x k c, e = .returned (.slice x k c) ∧ Hid ((gA rows q).length = k ∧ IntsAt w' (.slice x k c) (gA rows q))) ∧ Below w.heap.size w w' := by
  have HV : Hid (∀ wr, Below w.heap.size w wr → ∀ k, k < q → ∃ g off a c, ad = some ⟨g, off, none⟩ ∧ wr.cell? ⟨g, off + k, none⟩ = some (.slice a (rows k).length c) ∧ (rows k).length * 8 ≤ 140737488355328 ∧ Hid (∀ w', Below w.heap.size w w' → IntsAt w' (.slice a (rows k).length c) (rows k))) := fun wr hb k hk => by
    obtain ⟨g, off, h1, h2, h3, h4⟩ := hv k hk
    obtain ⟨a, c, e⟩ := h3.form
    rw [e] at h2 h3
    exact ⟨g, off, a, c, h1, kc _ _ hb h2, h4, fun w' hb' => h3.past hb'⟩
  have LE : Hid (∀ K, K ≤ q → (gA rows K).length ≤ 17592186044416) := fun K hK => gA_le rows _ K fun k hk => by obtain ⟨g, off, -, -, -, h4⟩ := hv k (by omega); omega
  have q1 : (q : Int) ≤ 1000 := by omega
  obtain ⟨i0, hi0, hz0, hz1, hz2⟩ := info_parts info_int
  clear hv
  go_enter Tryd.func71, Tryd.ntmps71
  go_wp2_with fail
  go_loopw [3, 10] (fun u s wr => ∃ (K : Nat), K ≤ q ∧ s = .int .i64 (K : Int) ∧ Hid (wr.ownsRow w.heap.size 3 1 u (gA rows K).length ((gA rows K).map (Value.int .i64))) ∧ Hid (Below w.heap.size w wr)) (fun _ s _ => q - (intOf s).toNat)
  case atStart => exact ⟨0, by omega, rfl, World.ownsRow_nil _ _ _ _, Below.refl _ _⟩
  case round =>
    obtain ⟨K, hK, rfl, hown, hB⟩ := hrel
    by_cases ck : K < q
    · have k0 : (0 : Int) ≤ (K : Int) := by omega
      have k1 : (K : Int) < (q : Int) := by omega
      obtain ⟨g, off, a, c, rfl, c1, l8, HI⟩ := HV.out wr hB.out K ck
      have L0 := hideD (LE.out K hK)
      have nx : Hid (gA rows (K + 1) = gR (rows K) (rows K).length (gA rows K)) := rfl
      have GE := hideD (gR_ge (rows K) (gA rows K))
      have GL : Hid (∀ J, J ≤ (rows K).length → (gR (rows K) J (gA rows K)).length ≤ 17592186044416) := fun J hJ => gR_le _ _ _ L0.out J (by omega)
      have own0 : Hid (wr.ownsRow w.heap.size 3 1 _ (gR (rows K) 0 (gA rows K)).length ((gR (rows K) 0 (gA rows K)).map (Value.int .i64))) := hown.out
      have SN : Hid (∀ J, gR (rows K) (J + 1) (gA rows K) = gS (gR (rows K) J (gA rows K)) J ((rows K).getD J 0)) := fun J => rfl
      generalize gA rows K = out at *
      generalize rows K = row at *
      generalize hr : row.length = r at *
      have r1 : (r : Int) ≤ 17592186044416 := by omega
      have HR := hideD hr
      clear hr hown L0
      go_wp2_with fail
      go_loopw [3, 16] (fun u s w' => ∃ (J : Nat), J ≤ r ∧ s = .int .i64 (J : Int) ∧ Hid (w'.ownsRow w.heap.size 3 1 u (gR row J out).length ((gR row J out).map (Value.int .i64))) ∧ Hid (Below w.heap.size w w')) (fun _ s _ => r - (intOf s).toNat)
      case atStart => exact ⟨0, by omega, rfl, own0, hB⟩
      case round =>
        obtain ⟨J, hJ, rfl, hown, hB'⟩ := hrel
        clear own0
        by_cases cj : J < r
        · have j0 : (0 : Int) ≤ (J : Int) := by omega
          have j1 : (J : Int) < (r : Int) := by omega
          obtain ⟨cb, of2, rfl, c2⟩ := (HI.out _ hB'.out).at HR.out J cj
          have ge := GE.out J
          have gl := GL.out J (by omega)
          have sn := hideD (SN.out J)
          generalize gR row J out = L at *
          generalize row.getD J 0 = x at *
          obtain ⟨ua, uc, rfl⟩ := own_sliceI hown.out
          by_cases e : J = L.length
          · have e1 : ((J : Int) == ((L.length : Nat) : Int)) = true := by simp [e]
            have hsz := hB'.out.size
            have HN := hideD (one_int wr x)
            generalize hl : L.length = n at *
            have nb : (n + 1) * 8 ≤ 140737488355328 := by omega
            have HLn := hideD hl
            have n0 : (0 : Int) ≤ (n : Int) := by omega
            subst e
            clear hl
            go_upto_region 10 with (at_builtin; refine wpList_append_own _ rfl _ _ 74 rfl w.heap.size 3 i0 (.int .i64 0) 1 8 Tryd.underlying74 hi0 hz0 hz1 hz2 rfl (by decide) _ J (L.map (Value.int .i64)) rfl (hown.out.alloc _) ⟨wr.heap.size, 0, none⟩ 1 1 [.int .i64 x] rfl rfl HN.out (fun u hu => by simp at hu; subst hu; rfl) (by unfold maxLen; omega) (by omega) (by simp; omega) ?_; intro v' w5 hown' hgrow hnil)
            have hb5 : Below w.heap.size w w5 := (hB'.out.alloc hsz _).grown hgrow (by simp; omega) (by intro q hq; exact (hown.out.lt q hq).1)
            have e2 : (L ++ [x]).length = J + 1 := by simp [HLn.out]
            have own5 : w5.ownsRow w.heap.size 3 1 v' (L ++ [x]).length ((L ++ [x]).map (Value.int .i64)) := by rw [e2, List.map_append]; exact hown'
            obtain ⟨g5, c5, rfl⟩ := own_slice_pos own5 (by omega)
            have gx : (L ++ [x]).getD J 0 = x := by rw [← HLn.out]; simp [List.getD]
            have y0 := ints_cell own5 (j := J) (by omega)
            rw [gx] at y0
            have z0 := own5.frozenAt J
            obtain ⟨s1, s2⟩ := ints_set own5 hb5 J x
            have e3 : (L ++ [x]).set J x = L ++ [x] := by rw [← HLn.out]; simp
            rw [e3] at s1
            have O6 : Hid ((w5.setCell ⟨g5, J, none⟩ (.int .i64 x)).ownsRow w.heap.size 3 1 (.slice (some ⟨g5, 0, none⟩) (L ++ [x]).length c5) (gR row (J + 1) out).length ((gR row (J + 1) out).map (Value.int .i64))) := by
              show World.ownsRow _ _ _ _ _ _ _
              rw [sn.out]
              unfold gS
              rw [if_pos HLn.out.symm]
              exact s1
            have B6 := hideD s2
            have n5 : ((L ++ [x]).length : Int) = (J : Int) + 1 := by omega
            generalize (L ++ [x]).length = n6 at *
            have j6 : (J : Int) < (n6 : Int) := by omega
            clear hown' hgrow hnil hb5 own5 s1 s2 e3 gx hown hB' HN sn e2 n5
            go_wp2_with fail
            go_roundw
            case rel => exact ⟨J + 1, by omega, by go_num, by simpa using O6, by simpa using B6⟩
            case measure => simp [intOf]; omega
          · have e1 : ((J : Int) == ((L.length : Nat) : Int)) = false := by simp; omega
            obtain ⟨g5, c5, e5⟩ := own_slice_pos hown.out (by omega)
            injection e5 with e5 _ e6
            subst e5 e6
            have y0 := ints_cell hown.out (j := J) (by omega)
            have z0 := hown.out.frozenAt J
            obtain ⟨s1, s2⟩ := ints_set hown.out hB'.out J (max (L.getD J 0) x)
            have O6 : Hid ((wr.setCell ⟨g5, J, none⟩ (.int .i64 (max (L.getD J 0) x))).ownsRow w.heap.size 3 1 (.slice (some ⟨g5, 0, none⟩) L.length uc) (gR row (J + 1) out).length ((gR row (J + 1) out).map (Value.int .i64))) := by
              show World.ownsRow _ _ _ _ _ _ _
              rw [sn.out]
              unfold gS
              rw [if_neg e]
              rw [List.length_set] at s1
              rw [List.length_set]
              exact s1
            have B6 := hideD s2
            generalize L.getD J 0 = y at *
            generalize L.length = n6 at *
            have j6 : (J : Int) < (n6 : Int) := by omega
            have n60 : (n6 : Int) ≤ 17592186044416 := by omega
            clear s1 s2 hown hB' sn
            go_wp2_with fail
            go_roundw
            case rel => exact ⟨J + 1, by omega, by go_num, O6, B6⟩
            case measure => simp [intOf]; omega
        · have j1 : ¬ ((J : Int) < (r : Int)) := by omega
          obtain rfl : J = r := by omega
          have o7 := hown.out
          rw [← nx.out] at o7
          have O7 := hideD o7
          clear o7
          clear hown nx
          go_wp2_with fail
          go_roundw
          case rel => exact ⟨K + 1, by omega, by go_num, O7, hB'⟩
          case measure => simp [intOf]; omega
    · have k1 : ¬ ((K : Int) < (q : Int)) := by omega
      obtain rfl : K = q := by omega
      obtain ⟨x, kk, c, e, hI, -⟩ := own_ints (l := gA rows K) (base := w.heap.size) hown.out
      have hk : Hid ((gA rows K).length = kk) := by
        have := hown.out.2
        rcases this with ⟨h1, h2⟩ | ⟨g, cp, cur, h1, _⟩
        · rw [e] at h1; injection h1 with _ h1 _; show _ = _; omega
        · rw [e] at h1; injection h1 with _ h1 _; exact h1.symm
      subst e
      have HI := hideD hI
      clear hI
      go_wp2_with fail
      go_ret
      exact ⟨⟨_, _, _, rfl, hk.out, HI.out⟩, hB.out⟩
set_option maxHeartbeats 8000000 in
theorem rgreat_any (q cap : Nat) (ad : Option Addr) (vs : Nat → Value) (rows : Nat → List Int) (w : World) (hv : RowsI w ad q vs rows) (hq : q ≤ 1000) :
    Calls Tryd.prog 72 #[.slice ad q cap] w fun e w' => (∃ x k c, e = .returned (.slice x k c) ∧ Hid ((gA rows q).length = k ∧ IntsAt w' (.slice x k c) (gA rows q))) ∧ Below w.heap.size w w' := by
  have HV : Hid (∀ k, k < q → ∃ g off a c, ad = some ⟨g, off, none⟩ ∧ (rows k).length * 8 ≤ 140737488355328 ∧ Hid (∀ w', Below w.heap.size w w' → w'.cell? ⟨g, off + k, none⟩ = some (.slice a (rows k).length c) ∧ IntsAt w' (.slice a (rows k).length c) (rows k))) := fun k hk => by
    obtain ⟨g, off, h1, h2, h3, h4⟩ := hv k hk
    obtain ⟨a, c, e⟩ := h3.form
    rw [e] at h2 h3
    exact ⟨g, off, a, c, h1, h4, fun w' hb' => ⟨kc _ _ hb' h2, h3.past hb'⟩⟩
  have LE : Hid (∀ K, K ≤ q → (gA rows K).length ≤ 17592186044416) := fun K hK => gA_le rows _ K fun k hk => by obtain ⟨g, off, -, -, -, h4⟩ := hv k (by omega); omega
  have q1 : (q : Int) ≤ 1000 := by omega
  obtain ⟨i0, hi0, hz0, hz1, hz2⟩ := info_parts info_int
  clear hv
  go_enter Tryd.func72, Tryd.ntmps72
  go_wp2_with fail
  go_loopw [3, 4] (fun u s wr => ∃ (K : Nat), K ≤ q ∧ s = .int .i64 (K : Int) ∧ Hid (wr.ownsRow w.heap.size 3 1 u (gA rows K).length ((gA rows K).map (Value.int .i64))) ∧ Hid (Below w.heap.size w wr)) (fun _ s _ => q - (intOf s).toNat)
  case atStart => exact ⟨0, by omega, rfl, World.ownsRow_nil _ _ _ _, Below.refl _ _⟩
  case round =>
    obtain ⟨K, hK, rfl, hown, hB⟩ := hrel
    by_cases ck : K < q
    · have k0 : (0 : Int) ≤ (K : Int) := by omega
      have k1 : (K : Int) < (q : Int) := by omega
      obtain ⟨g, off, a, c, rfl, l8, HI⟩ := HV.out K ck
      have L0 := hideD (LE.out K hK)
      have nx : Hid (gA rows (K + 1) = gR (rows K) (rows K).length (gA rows K)) := rfl
      have GE := hideD (gR_ge (rows K) (gA rows K))
      have GL : Hid (∀ J, J ≤ (rows K).length → (gR (rows K) J (gA rows K)).length ≤ 17592186044416) := fun J hJ => gR_le _ _ _ L0.out J (by omega)
      have own0 : Hid (wr.ownsRow w.heap.size 3 1 _ (gR (rows K) 0 (gA rows K)).length ((gR (rows K) 0 (gA rows K)).map (Value.int .i64))) := hown.out
      have SN : Hid (∀ J, gR (rows K) (J + 1) (gA rows K) = gS (gR (rows K) J (gA rows K)) J ((rows K).getD J 0)) := fun J => rfl
      generalize gA rows K = out at *
      generalize rows K = row at *
      generalize hr : row.length = r at *
      have r1 : (r : Int) ≤ 17592186044416 := by omega
      have HR := hideD hr
      clear hr hown L0
      go_wp2_with fail
      go_loopw [3, 5] (fun u s w' => ∃ (J : Nat), J ≤ r ∧ s = .int .i64 (J : Int) ∧ Hid (w'.ownsRow w.heap.size 3 1 u (gR row J out).length ((gR row J out).map (Value.int .i64))) ∧ Hid (Below w.heap.size w w')) (fun _ s _ => r - (intOf s).toNat)
      case atStart => exact ⟨0, by omega, rfl, own0, hB⟩
      case round =>
        obtain ⟨J, hJ, rfl, hown, hB'⟩ := hrel
        clear own0
        obtain ⟨c1, hI⟩ := HI.out _ hB'.out
        by_cases cj : J < r
        · have j0 : (0 : Int) ≤ (J : Int) := by omega
          have j1 : (J : Int) < (r : Int) := by omega
          obtain ⟨cb, of2, rfl, c2⟩ := hI.at HR.out J cj
          have ge := GE.out J
          have gl := GL.out J (by omega)
          have sn := hideD (SN.out J)
          clear hI
          generalize gR row J out = L at *
          generalize row.getD J 0 = x at *
          obtain ⟨ua, uc, rfl⟩ := own_sliceI hown.out
          by_cases e : J = L.length
          · have e1 : ((J : Int) == ((L.length : Nat) : Int)) = true := by simp [e]
            have hsz := hB'.out.size
            have HN := hideD (one_int wr x)
            generalize hl : L.length = n at *
            have nb : (n + 1) * 8 ≤ 140737488355328 := by omega
            have HLn := hideD hl
            subst e
            clear hl
            go_wp2_with (at_builtin; refine wpList_append_own _ rfl _ _ 74 rfl w.heap.size 3 i0 (.int .i64 0) 1 8 Tryd.underlying74 hi0 hz0 hz1 hz2 rfl (by decide) _ J (L.map (Value.int .i64)) rfl (hown.out.alloc _) ⟨wr.heap.size, 0, none⟩ 1 1 [.int .i64 x] rfl rfl HN.out (fun u hu => by simp at hu; subst hu; rfl) (by unfold maxLen; omega) (by omega) (by simp; omega) ?_; intro v' w5 hown' hgrow hnil)
            have hb5 : Below w.heap.size w w5 := (hB'.out.alloc hsz _).grown hgrow (by simp; omega) (by intro q hq; exact (hown.out.lt q hq).1)
            have O6 : Hid (w5.ownsRow w.heap.size 3 1 v' (gR row (J + 1) out).length ((gR row (J + 1) out).map (Value.int .i64))) := by
              show World.ownsRow _ _ _ _ _ _ _
              rw [sn.out]
              unfold gS
              rw [if_pos HLn.out.symm, List.map_append, List.length_append, HLn.out]
              exact hown'
            have B6 := hideD hb5
            clear hown' hgrow hnil hb5 hown hB' HN sn
            exact ⟨⟨J + 1, by omega, by go_num, O6, B6⟩, by simp [intOf]; omega⟩
          · have e1 : ((J : Int) == ((L.length : Nat) : Int)) = false := by simp; omega
            obtain ⟨g5, c5, e5⟩ := own_slice_pos hown.out (by omega)
            injection e5 with e5 _ e6
            subst e5 e6
            have y0 := ints_cell hown.out (j := J) (by omega)
            have z0 := hown.out.frozenAt J
            have n60 : ((L.length : Nat) : Int) ≤ 17592186044416 := by omega
            have j6 : (J : Int) < ((L.length : Nat) : Int) := by omega
            by_cases lt : L.getD J 0 < x
            · have O6 : Hid (∀ k, ((wr.drewN k).setCell ⟨g5, J, none⟩ (.int .i64 x)).ownsRow w.heap.size 3 1 (.slice (some ⟨g5, 0, none⟩) L.length uc) (gR row (J + 1) out).length ((gR row (J + 1) out).map (Value.int .i64))) := fun k => by
                have s1 := (ints_set (w := wr.drewN k) (w0 := w) (own_past hown.out (below_drewN (Below.refl _ _) k)) (below_drewN hB'.out k) J x).1
                rw [sn.out]
                unfold gS
                rw [if_neg e, show max (L.getD J 0) x = x by omega]
                rw [List.length_set] at s1
                rw [List.length_set]
                exact s1
              have B6 : Hid (∀ k, Below w.heap.size w ((wr.drewN k).setCell ⟨g5, J, none⟩ (.int .i64 x))) := fun k => (ints_set (w := wr.drewN k) (w0 := w) (own_past hown.out (below_drewN (Below.refl _ _) k)) (below_drewN hB'.out k) J x).2
              have lt1 : decide (x > L.getD J 0) = true := by simpa using lt
              have lt2 : decide (L.getD J 0 < x) = true := by simpa using lt
              generalize L.getD J 0 = y at *
              generalize L.length = n6 at *
              clear hown hB' sn
              go_wp2_with fail
              go_quiet (fail)
              go_wp2_with fail
              first
                | (go_roundw
                   case rel => exact ⟨J + 1, by omega, by go_num, O6.out _, B6.out _⟩
                   case measure => simp [intOf]; omega)
                | (go_big_region
                   all_goals
                     go_wp2_with fail
                     exact ⟨⟨J + 1, by omega, by go_num, O6.out _, B6.out _⟩, by simp [intOf]; omega⟩)
            · have O6 : Hid (∀ k, (wr.drewN k).ownsRow w.heap.size 3 1 (.slice (some ⟨g5, 0, none⟩) L.length uc) (gR row (J + 1) out).length ((gR row (J + 1) out).map (Value.int .i64))) := fun k => by
                have s1 := own_past hown.out (below_drewN (Below.refl _ _) k)
                rw [sn.out]
                unfold gS
                have mx : max (L.getD J 0) x = L.getD J 0 := by omega
                have se : L.set J (L.getD J 0) = L := by
                  have : L.getD J 0 = L[J]'(by omega) := by simp [List.getD, show J < L.length by omega]
                  rw [this]; simp
                rw [if_neg e, mx, se]
                exact s1
              have B6 : Hid (∀ k, Below w.heap.size w (wr.drewN k)) := fun k => below_drewN hB'.out k
              have lt1 : decide (x > L.getD J 0) = false := by simpa using lt
              have lt2 : decide (L.getD J 0 < x) = false := by simpa using lt
              generalize L.getD J 0 = y at *
              generalize L.length = n6 at *
              clear hown hB' sn
              go_wp2_with fail
              go_quiet (fail)
              go_wp2_with fail
              go_roundw
              case rel => exact ⟨J + 1, by omega, by go_num, O6.out _, B6.out _⟩
              case measure => simp [intOf]; omega
        · have j1 : ¬ ((J : Int) < (r : Int)) := by omega
          obtain rfl : J = r := by omega
          have o7 := hown.out
          rw [← nx.out] at o7
          have O7 := hideD o7
          clear o7 hown nx hI
          go_wp2_with fail
          go_roundw
          case rel => exact ⟨K + 1, by omega, by go_num, O7, hB'⟩
          case measure => simp [intOf]; omega
    · have k1 : ¬ ((K : Int) < (q : Int)) := by omega
      obtain rfl : K = q := by omega
      obtain ⟨x, kk, c, e, hI, -⟩ := own_ints (l := gA rows K) (base := w.heap.size) hown.out
      have hk : Hid ((gA rows K).length = kk) := by
        have := hown.out.2
        rcases this with ⟨h1, h2⟩ | ⟨g, cp, cur, h1, _⟩
        · rw [e] at h1; injection h1 with _ h1 _; show _ = _; omega
        · rw [e] at h1; injection h1 with _ h1 _; exact h1.symm
      subst e
      have HI := hideD hI
      clear hI
      go_wp2_with fail
      go_ret
      exact ⟨⟨_, _, _, rfl, hk.out, HI.out⟩, hB.out⟩
end Go.Proofs.YtfffcmelkdmjaaaDoor
