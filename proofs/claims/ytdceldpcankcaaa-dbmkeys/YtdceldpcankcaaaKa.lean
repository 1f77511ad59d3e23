/-
  Key: its memory is the caller's.
-/
import Derived.Test.YtdceldpcankcaaaEl
namespace Go.Proofs.Ytdceldpcankcaaa
open Go.RowKit
set_option linter.unusedVariables false
set_option maxRecDepth 100000
theorem info_u8 : (Try.prog.info? 5).map (fun i => (i.zero, i.size, i.bytes)) = some (some (.int .u8 0), 1, 1) := by kernel_rfl
theorem own_later {w w' : World} {base K : Nat} {E : TypeId} {v : Value} {xs : List Value} (h : w.ownsRow base E 1 v K xs) (hb : Below w.heap.size w w') : w'.ownsRow base E 1 v K xs := by
  refine ⟨h.1, ?_⟩
  rcases h.2 with h0 | ⟨g, cap, cur, h1, h2, h3, h4⟩
  · exact .inl h0
  · refine .inr ⟨g, cap, cur, h1, h2, ?_, h4⟩
    have lt : g < w.heap.size := by
      apply Classical.byContradiction
      intro q
      rw [Array.getElem?_eq_none (by omega)] at h3
      cases h3
    rw [hb.block g lt]
    exact h3
theorem own_base {w : World} {base base' K : Nat} {E : TypeId} {v : Value} {xs : List Value} (h : w.ownsRow base E 1 v K xs) (hb : base' ≤ base) : w.ownsRow base' E 1 v K xs := by
  refine ⟨h.1, ?_⟩
  rcases h.2 with h0 | ⟨g, cap, cur, h1, h2, h3⟩
  · exact .inl h0
  · exact .inr ⟨g, cap, cur, h1, by omega, h3⟩
theorem news1 (W : World) (a : Value) (T : TypeId) : ∀ j u, [a][j]? = some u → (W.alloc (.cells #[a] T)).cell? ((⟨W.heap.size, 0, none⟩ : Addr).add j) = some u := by
  intro j u hj
  rw [Addr.add_lit, World.cell?_alloc_at _ _ _ _ rfl]
  simpa using hj
theorem news4 (W : World) (a b c d : Value) (T : TypeId) : ∀ j u, [a, b, c, d][j]? = some u → (W.alloc (.cells #[a, b, c, d] T)).cell? ((⟨W.heap.size, 0, none⟩ : Addr).add j) = some u := by
  intro j u hj
  rw [Addr.add_lit, World.cell?_alloc_at _ _ _ _ rfl]
  simpa using hj
set_option maxHeartbeats 4000000 in
theorem key_raw (b n m : Nat) (c : Row) (w : World) (hn : n ≤ 8) (hm : Hid (m = (n + 1) * (n + 1))) (h81 : m ≤ 81) (hz : ZoneAt w b n c) :
    Calls Try.prog 7 #[.pointer (some ⟨b, 0, none⟩)] w fun e w' => (∃ v L xs, e = .returned v ∧ 0 < L ∧ L ≤ 325 ∧ w'.ownsRow w.heap.size 5 1 v L xs) ∧ Below w.heap.size w w' := by
  have HU : Hid (∀ w', w'.cell? ⟨b, 0, none⟩ = some (.int .i64 n) → Calls Try.prog 20 #[.pointer (some ⟨b, 0, none⟩)] w' fun e w'' => e = .returned (.slice (some ⟨b, 1, none⟩) m 81) ∧ Below w'.heap.size w' w'') := fun w' h0 => by
    have := used_any b n w' hn h0
    rw [← hm.out] at this
    exact this
  have m1 : (m : Int) ≤ 81 := by omega
  have h0 := hz.clocks
  have HU0 := hideD (HU.out _ h0)
  obtain ⟨i0, hi, hz0, hz1, hz2⟩ := info_parts info_u8
  have HZ := hideD hz
  clear hz
  go_enter Try.func7, Try.ntmps7
  go_wp2_with fail
  refine HU0.out.mono ?_
  rintro e w1 ⟨rfl, hb⟩
  have h1 := kc _ _ hb h0
  have hZ1 := hideD (HZ.out.past hb)
  have hB1 := hideD hb
  have hs1 := hb.size
  have hbl := hZ1.out.lt
  clear hb h0 HU0 HZ
  go_wp2_with (first
    | (refine wpList_make_own _ rfl _ _ 30 rfl w1.heap.size 5 i0 (.int .u8 0) 1 Try.underlying30 hi hz0 hz1 .i64 .i64 _ (1 + 4 * m) rfl rfl (by omega) (by rw [hz2]; omega) (by unfold maxLen; omega) (Nat.le_refl _) ?_; intro w2 hown hgrow; have hb2 : Below w1.heap.size w1 w2 := (Below.refl _ _).grown hgrow (Nat.le_refl _) (by intro k hk; cases hk); have h2 := kc _ _ hb2 h1; have hs2 := hb2.size)
    | (at_builtin; refine wpList_append_own _ rfl _ _ 30 rfl w1.heap.size 5 i0 (.int .u8 0) 1 1 Try.underlying30 hi hz0 hz1 hz2 rfl (by decide) _ 0 [] rfl (hown.alloc _) ⟨w2.heap.size, 0, none⟩ 1 1 [_] rfl rfl (news1 w2 _ _) (fun u hu => by simp at hu; subst hu; rfl) (by unfold maxLen; omega) (by omega) (by simp; omega) ?_; intro v3 w3 hown3 hgrow3 hnil3; have hb3 : Below w1.heap.size w1 w3 := (hb2.alloc hs2 _).grown hgrow3 (by simp; omega) (by intro k hk; exact (hown.lt k hk).1); have h3 := kc _ _ hb3 h1))
  have HU3 := hideD (HU.out _ h3)
  have hZ3 := hideD (hZ1.out.past hb3)
  have hB3 := hideD (beyondD hB1.out hb3)
  have hO3 := hideD hown3
  have hs3 := hb3.size
  clear h1 h2 hown hgrow hown3 hgrow3 hnil3 hb2 hb3
  refine HU3.out.mono ?_
  rintro e w4 ⟨rfl, hb⟩
  have hZ4 := hideD (hZ3.out.past hb)
  have hB4 := hideD (beyondD hB3.out hb)
  have hs4 : w1.heap.size ≤ w4.heap.size := by have := hb.size; omega
  have hO4 : Hid (w4.ownsRow w1.heap.size 5 1 v3 1 _) := hideD (own_later hO3.out hb)
  have h4 := kc _ _ hb h3
  clear hb HU3 hZ3 hB3 hO3 h3 HU
  go_wp2_with fail
  go_loopw [3, 32] (fun v s wr => ∃ (K : Nat) (xs : List Value), K ≤ m ∧ s = .int .i64 K ∧ Hid (wr.ownsRow w1.heap.size 5 1 v (1 + 4 * K) xs) ∧ Hid (ZoneAt wr b n c) ∧ Hid (w1.heap.size ≤ wr.heap.size) ∧ Hid (Below w.heap.size w wr)) (fun _ s _ => m - (intOf s).toNat)
  case atStart => exact ⟨0, _, by omega, rfl, hO4, hZ4, hs4, hB4⟩
  case round =>
    obtain ⟨K, xs, hK, rfl, hO, hZ, hS, hB⟩ := hrel
    clear hO4 hZ4 hs4 hB4 h4
    by_cases ck : K < m
    · have hx := hZ.out.cell K (by omega)
      generalize c K = x at *
      have k1 : (K : Int) < 81 := by omega
      have k2 : (K : Int) < (m : Int) := by omega
      have s1 := hS.out
      go_wp2_with (at_builtin; refine wpList_append_own _ rfl _ _ 30 rfl w1.heap.size 5 i0 (.int .u8 0) 1 1 Try.underlying30 hi hz0 hz1 hz2 rfl (by decide) _ (1 + 4 * K) xs rfl (hO.out.alloc _) ⟨wr.heap.size, 0, none⟩ 4 4 [_, _, _, _] rfl rfl (news4 wr _ _ _ _ _) (fun u hu => by simp at hu; rcases hu with rfl | rfl | rfl | rfl <;> rfl) (by unfold maxLen; omega) (by omega) (by simp; omega) ?_; intro v' w5 hown5 hgrow5 hnil5)
      have hb5 : Below w1.heap.size wr w5 := ((Below.refl _ _).alloc s1 _).grown hgrow5 (by simp; omega) (by intro k hk; exact (hO.out.lt k hk).1)
      have e5 : 1 + 4 * K + 4 = 1 + 4 * (K + 1) := by omega
      rw [e5] at hown5
      have hO5 := hideD hown5
      have hZ5 := hideD (hZ.out.later hb5 hbl)
      have hS5 : Hid (w1.heap.size ≤ w5.heap.size) := by show w1.heap.size ≤ w5.heap.size; have := hb5.size; omega
      have hB5 := hideD (hB.out.trans (hb5.mono hs1))
      clear hown5 hgrow5 hnil5 hb5 e5
      go_roundw
      case rel => exact ⟨K + 1, _, by omega, by go_num, hO5, hZ5, hS5, hB5⟩
      case measure => simp [intOf]; omega
    · go_wp2_with fail
      go_ret
      refine ⟨⟨_, 1 + 4 * K, xs, rfl, by omega, by omega, own_base hO.out hs1⟩, hB.out⟩
end Go.Proofs.Ytdceldpcankcaaa
