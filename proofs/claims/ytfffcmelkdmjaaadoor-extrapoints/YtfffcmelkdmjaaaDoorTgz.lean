/-
  Gone by both ways: one answer; the cells of zones by both, held against each other.
-/
import Derived.Test.YtfffcmelkdmjaaaDoorTfz
import Derived.Test.YtfffcmelkdmjaaaDoorTez
namespace Go.Proofs.YtfffcmelkdmjaaaDoor
open Go.RowKit
set_option linter.unusedVariables false
set_option maxRecDepth 100000
set_option maxHeartbeats 1000000 in
theorem same_rows (g1 o1 g2 o2 c1 c2 n : Nat) (l : List Int) (w : World) (h1 : RowAt w g1 o1 l) (h2 : RowAt w g2 o2 l) (hl : l.length = n) (hn : n ≤ 9223372036854775807) :
    Calls Tryd.prog 64 #[.slice (some ⟨g1, o1, none⟩) n c1, .slice (some ⟨g2, o2, none⟩) n c2] w fun e w' => e = .returned (.bool true) ∧ ∃ k, w' = w.drewN k := by
  have H1 : Hid (∀ j, j < n → w.cell? ⟨g1, o1 + j, none⟩ = some (.int .i32 (l.getD j 0))) := fun j hj => h1 j (by omega)
  have H2 : Hid (∀ j, j < n → w.cell? ⟨g2, o2 + j, none⟩ = some (.int .i32 (l.getD j 0))) := fun j hj => h2 j (by omega)
  clear h1 h2 hl
  have n1 : (n : Int) ≤ 9223372036854775807 := by omega
  go_enter Tryd.func64, Tryd.ntmps64
  go_wp2_with fail
  go_loopw [5] (fun s wr => ∃ (I k : Nat), I ≤ n ∧ s = .int .i64 I ∧ wr = w.drewN k) (fun s _ => n - (intOf s).toNat)
  case atStart => exact ⟨0, 0, by omega, rfl, rfl⟩
  case round =>
    obtain ⟨I, k, hI, rfl, rfl⟩ := hrel
    by_cases ci : I < n
    · have a1 := H1.out I ci
      have a2 := H2.out I ci
      have i0 : (0 : Int) ≤ (I : Int) := by omega
      have i1 : (I : Int) < (n : Int) := by omega
      generalize l.getD I 0 = x at *
      have cy : (x != x) = false := by simp
      go_wp2_with fail
      go_quiet (fail)
      go_wp2_with fail
      go_roundw
      case rel => exact ⟨I + 1, _, by omega, by go_num, rfl⟩
      case measure => simp [intOf]; omega
    · go_wp2_with fail
      go_ret
      exact ⟨rfl, _, rfl⟩
theorem same_empty (a b : Option Addr) (c1 c2 : Nat) (w : World) : Calls Tryd.prog 64 #[.slice a 0 c1, .slice b 0 c2] w fun e w' => e = .returned (.bool true) ∧ ∃ k, w' = w.drewN k := by
  go_enter Tryd.func64, Tryd.ntmps64
  go_wp2_with fail
  go_loopw [5] (fun s wr => s = .int .i64 0 ∧ wr = w) (fun s _ => 1)
  case atStart => exact ⟨rfl, rfl⟩
  case round =>
    obtain ⟨rfl, rfl⟩ := hrel
    go_wp2_with fail
    go_ret
    exact ⟨rfl, 0, rfl⟩
theorem same_slices (v v' : Value) (l : List Int) (w : World) (h : SliceAt w v l) (h' : SliceAt w v' l) (hn : l.length ≤ 9223372036854775807) : Calls Tryd.prog 64 #[v, v'] w fun e w' => e = .returned (.bool true) ∧ ∃ k, w' = w.drewN k := by
  by_cases q : l.length = 0
  · obtain ⟨ad, cap, rfl⟩ : ∃ ad cap, v = .slice ad 0 cap := by
      rcases h with ⟨ad, c, rfl, _⟩ | ⟨b, off, cap, rfl, _⟩
      · exact ⟨ad, c, rfl⟩
      · exact ⟨_, cap, by rw [q]⟩
    obtain ⟨ad', cap', rfl⟩ : ∃ ad cap, v' = .slice ad 0 cap := by
      rcases h' with ⟨ad, c, rfl, _⟩ | ⟨b, off, cap, rfl, _⟩
      · exact ⟨ad, c, rfl⟩
      · exact ⟨_, cap, by rw [q]⟩
    exact same_empty ad ad' cap cap' w
  · rcases h with ⟨ad, c, rfl, rfl⟩ | ⟨b, off, cap, rfl, hc⟩
    · simp at q
    · rcases h' with ⟨ad, c, rfl, rfl⟩ | ⟨b', off', cap', rfl, hc'⟩
      · simp at q
      · exact same_rows b off b' off' cap cap' _ l w hc hc' rfl hn
/-- The cells that are told of a zone, or none. -/
def ozL (o : OZ) : List Int := match o with
  | none => []
  | some x => listOf x.2 ((x.1 + 1) * (x.1 + 1))
theorem ozL_len (o : OZ) (h : ∀ n c, o = some (n, c) → n ≤ 8) : (ozL o).length ≤ 81 := by
  cases o with
  | none => decide
  | some x =>
    have := h x.1 x.2 rfl
    show (listOf _ _).length ≤ 81
    rw [listOf_len]
    exact Nat.mul_le_mul (show x.1 + 1 ≤ 9 by omega) (show x.1 + 1 ≤ 9 by omega)
theorem PZ.n8 {w : World} {p : Option Addr} {o : OZ} (h : PZ w p o) : ∀ n c, o = some (n, c) → n ≤ 8 := fun n c e => by
  subst e
  exact h.1
/-- Cells of a zone by the program. -/
theorem pz_cells {w : World} {p : Option Addr} {o : OZ} (h : PZ w p o) : Calls Tryd.prog 65 #[.pointer p] w fun e w' => (∃ v, e = .returned v ∧ Hid (SliceAt w' v (ozL o))) ∧ Hid (Below w.heap.size w w') := by
  cases o with
  | none =>
    obtain rfl := h
    exact (zcells_nil w).mono fun e w' ⟨h1, h2⟩ => ⟨⟨_, h1, .inl ⟨_, _, rfl, rfl⟩⟩, by rw [h2]; exact Below.refl _ _⟩
  | some x =>
    obtain ⟨n, c⟩ := x
    obtain ⟨hn, h32, b, rfl, hZ⟩ := h
    refine (cells_any b n c w hZ hn).mono fun e w' h' => ?_
    obtain ⟨⟨v, rfl, g, cap, rfl, hg, hgl, hr⟩, hb⟩ := h'
    exact ⟨⟨_, rfl, .inr ⟨g, 0, cap, rfl, hr⟩⟩, hb⟩
theorem rz_cells {w : World} {p : Option Addr} {o : OZ} (h : RZ w p o) : Calls Tryd.prog 66 #[.pointer p] w fun e w' => (∃ v, e = .returned v ∧ Hid (SliceAt w' v (ozL o))) ∧ Hid (Below w.heap.size w w') := by
  cases o with
  | none =>
    obtain rfl := h
    exact (rcells_nil w).mono fun e w' ⟨h1, h2⟩ => ⟨⟨_, h1, .inl ⟨_, _, rfl, rfl⟩⟩, by rw [h2]; exact Below.refl _ _⟩
  | some x =>
    obtain ⟨n, c⟩ := x
    obtain ⟨hn, r, B, rfl, g0, cap0, r0, r1, r2, r3, r4⟩ := h
    have m81 : (n + 1) * (n + 1) ≤ 81 := Nat.mul_le_mul (show n + 1 ≤ 9 by omega) (show n + 1 ≤ 9 by omega)
    have mp : 0 < (n + 1) * (n + 1) := Nat.mul_pos (by omega) (by omega)
    rw [listOf_len] at r1
    refine (rcells_own r g0 n cap0 _ (listOf c ((n + 1) * (n + 1))) w (listOf_len _ _) m81 mp r1 r4).mono fun e w' h' => ?_
    obtain ⟨⟨g2, cap2, rfl, hg2, hgl2, hrow2, -⟩, hb3⟩ := h'
    refine ⟨⟨_, rfl, .inr ⟨g2, 0, cap2, ?_, hrow2⟩⟩, hb3⟩
    show Value.slice _ _ _ = Value.slice _ (listOf c ((n + 1) * (n + 1))).length _
    rw [listOf_len]
/-- Gone, by both ways. -/
theorem two_gone {w : World} {p q : Option Addr} {o : OZ} {v u : Value} {l : List Int} (h1 : PZ w p o) (h2 : RZ w q o) (h3 : ZCo o) (hv : IntsAt w v l) (hu : IntsAt w u l) (hl : l.length ≤ 9223372036854775807) :
    Two w 68 #[.pointer p, v] 69 #[.pointer q, u] := by
  cases o with
  | none =>
    obtain rfl := h1
    obtain rfl := h2
    exact two_err 1 (fun w' _ => gone_err _ _ 1 w' (same_w (free_nil v w'))) (fun w' _ => same_w (rgone_nil u w'))
  | some x =>
    obtain ⟨n, c⟩ := x
    obtain ⟨hn, h32, b, rfl, hZ⟩ := h1
    obtain ⟨-, r, B, rfl, hR⟩ := h2
    have zc := h3 n c rfl
    obtain ⟨m, hm⟩ : ∃ m, m = (n + 1) * (n + 1) := ⟨_, rfl⟩
    rw [← hm] at zc hR
    obtain ⟨ua, uc, rfl⟩ := hu.form
    cases ha : hasA n l l.length with
    | false =>
      refine two_err 12 (fun w' hb => gone_err _ _ 12 w' ((free_list hn (hZ.past hb) h32 (hv.past hb) hl).mono fun e w'' h => ?_)) (fun w' hb => (rgone_main r n m B l.length uc ua c c l w' hn hm (hR.past hb) zc rfl (hu.past hb) hl (fun h => by rw [ha] at h; cases h) (fun h => by rw [ha] at h; cases h) (fun h => by rw [ha] at h; cases h)).mono fun e w'' h => ?_)
      · obtain ⟨⟨-, h⟩ | ⟨h, -⟩, hb'⟩ := h
        · exact ⟨h, hb'⟩
        · rw [ha] at h; cases h
      · obtain ⟨⟨-, h⟩ | ⟨h, -⟩, hb'⟩ := h
        · exact ⟨h, hb'⟩
        · rw [ha] at h; cases h
    | true =>
      obtain ⟨c1, z1, i1, R1, f1, p1, q1⟩ := free_rowL (l := l) hn hm zc ha
      have T : ∀ w', Below w.heap.size w w' → Tells w' n 68 #[.pointer (some ⟨b, 0, none⟩), v] (some c1) := fun w' hb => gone_tells _ _ n c1 w' (freeL_tells hn hm (hZ.past hb) h32 (hv.past hb) hl ha R1 f1)
      have G : ∀ w', Below w.heap.size w w' → _ := fun w' hb => rgone_main r n m B l.length uc ua c c1 l w' hn hm (hR.past hb) zc rfl (hu.past hb) hl (fun _ => z1) (fun _ e => by
        have e0 : c = fun _ => 0 := by
          rcases zc with rfl | ⟨p, hp⟩
          · rfl
          · have := hp.zero hm
            omega
        rw [q1 e0, e0]) (fun _ e k hk => by
        obtain ⟨p, hp⟩ := zc_full zc e
        exact fgS_row hm hp ha (p1 p hp).2.1 k hk)
      refine ⟨0, some (n, c1), fun w' hb => (T w' hb).mono fun e w'' h => ?_, fun w' hb => (G w' hb).mono fun e w'' h => ?_, fun n' c' e => ?_⟩
      · obtain ⟨⟨B', b', -, rfl, hz'⟩, hb'⟩ := h
        exact ⟨⟨_, rfl, hn, zc_32 hm z1, b', rfl, hz'⟩, hb'⟩
      · obtain ⟨⟨h, -⟩ | ⟨-, h⟩, hb'⟩ := h
        · rw [ha] at h; cases h
        · obtain ⟨b', e1, B', h'⟩ := ref_form h
          rw [hm] at h'
          exact ⟨⟨_, e1, hn, b', B', rfl, h'⟩, hb'⟩
      · cases e
        rw [← hm]
        exact z1
end Go.Proofs.YtfffcmelkdmjaaaDoor
