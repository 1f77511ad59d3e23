/-
  Key: its memory is the caller's.
-/
import Derived.Test.YtdkolgndebkloaaGreatDoorZb
import Derived.OpenShut
import Derived.Test.YtdkolgndebkloaaGreatDoorZa
namespace Go.Proofs.YtdkolgndebkloaaGreatDoor
open Go.RowKit
set_option linter.unusedVariables false
set_option maxRecDepth 100000
theorem info_u8 : (Tryz.prog.info? 5).map (fun i => (i.zero, i.size, i.bytes)) = some (some (.int .u8 0), 1, 1) := by kernel_rfl
theorem own_later {w w' : World} {base K : Nat} {E : TypeId} {v : Value} {xs : List Value} (h : w.ownsRow base E 1 v K xs) (hb : Below w.heap.size w w') : w'.ownsRow base E 1 v K xs := by
  refine ⟨h.1, ?_⟩
  rcases h.2 with h0 | ⟨g, cap, cur, h1, h2, h3, h4⟩
  · exact .inl h0
  · refine .inr ⟨g, cap, cur, h1, h2, ?_, h4⟩
    have lt : g < w.heap.size := by
      apply Classical.byContradiction
      intro q
      rw [Array.getElem?_eq_none (by omega)] at h3
      cases h3
    rw [hb.block g lt]
    exact h3
theorem own_base {w : World} {base base' K : Nat} {E : TypeId} {v : Value} {xs : List Value} (h : w.ownsRow base E 1 v K xs) (hb : base' ≤ base) : w.ownsRow base' E 1 v K xs := by
  refine ⟨h.1, ?_⟩
  rcases h.2 with h0 | ⟨g, cap, cur, h1, h2, h3⟩
  · exact .inl h0
  · exact .inr ⟨g, cap, cur, h1, by omega, h3⟩
theorem news1 (W : World) (a : Value) (T : TypeId) : ∀ j u, [a][j]? = some u → (W.alloc (.cells #[a] T)).cell? ((⟨W.heap.size, 0, none⟩ : Addr).add j) = some u := by
  intro j u hj
  rw [Addr.add_lit, World.cell?_alloc_at _ _ _ _ rfl]
  simpa using hj
theorem news4 (W : World) (a b c d : Value) (T : TypeId) : ∀ j u, [a, b, c, d][j]? = some u → (W.alloc (.cells #[a, b, c, d] T)).cell? ((⟨W.heap.size, 0, none⟩ : Addr).add j) = some u := by
  intro j u hj
  rw [Addr.add_lit, World.cell?_alloc_at _ _ _ _ rfl]
  simpa using hj
set_option maxHeartbeats 4000000 in
theorem key_raw (b n m : Nat) (c : Row) (w : World) (hn : n ≤ 8) (hm : Hid (m = (n + 1) * (n + 1))) (h81 : m ≤ 81) (hz : ZoneAt w b n c) :
    Calls Tryz.prog 11 #[.pointer (some ⟨b, 0, none⟩)] w fun e w' => (∃ v L xs, e = .returned v ∧ 0 < L ∧ L ≤ 325 ∧ w'.ownsRow w.heap.size 5 1 v L xs) ∧ Below w.heap.size w w' := by
  have HU : Hid (∀ w', w'.cell? ⟨b, 0, none⟩ = some (.int .i64 n) → Calls Tryz.prog 29 #[.pointer (some ⟨b, 0, none⟩)] w' fun e w'' => e = .returned (.slice (some ⟨b, 1, none⟩) m 81) ∧ Below w'.heap.size w' w'') := fun w' h0 => by
    have := used_any b n w' hn h0
    rw [← hm.out] at this
    exact this
  have m1 : (m : Int) ≤ 81 := by omega
  have h0 := hz.clocks
  have HU0 := hideD (HU.out _ h0)
  obtain ⟨i0, hi, hz0, hz1, hz2⟩ := info_parts info_u8
  have HZ := hideD hz
  clear hz
  go_enter Tryz.func11, Tryz.ntmps11
  go_wp2_with fail
  refine HU0.out.mono ?_
  rintro e w1 ⟨rfl, hb⟩
  have h1 := kc _ _ hb h0
  have hZ1 := hideD (HZ.out.past hb)
  have hB1 := hideD hb
  have hs1 := hb.size
  have hbl := hZ1.out.lt
  clear hb h0 HU0 HZ
  go_wp2_with (first
    | (refine wpList_make_own _ rfl _ _ 35 rfl w1.heap.size 5 i0 (.int .u8 0) 1 Tryz.underlying35 hi hz0 hz1 .i64 .i64 _ (1 + 4 * m) rfl rfl (by omega) (by rw [hz2]; omega) (by unfold maxLen; omega) (Nat.le_refl _) ?_; intro w2 hown hgrow; have hb2 : Below w1.heap.size w1 w2 := (Below.refl _ _).grown hgrow (Nat.le_refl _) (by intro k hk; cases hk); have h2 := kc _ _ hb2 h1; have hs2 := hb2.size)
    | (at_builtin; refine wpList_append_own _ rfl _ _ 35 rfl w1.heap.size 5 i0 (.int .u8 0) 1 1 Tryz.underlying35 hi hz0 hz1 hz2 rfl (by decide) _ 0 [] rfl (hown.alloc _) ⟨w2.heap.size, 0, none⟩ 1 1 [_] rfl rfl (news1 w2 _ _) (fun u hu => by simp at hu; subst hu; rfl) (by unfold maxLen; omega) (by omega) (by simp; omega) ?_; intro v3 w3 hown3 hgrow3 hnil3; have hb3 : Below w1.heap.size w1 w3 := (hb2.alloc hs2 _).grown hgrow3 (by simp; omega) (by intro k hk; exact (hown.lt k hk).1); have h3 := kc _ _ hb3 h1))
  have HU3 := hideD (HU.out _ h3)
  have hZ3 := hideD (hZ1.out.past hb3)
  have hB3 := hideD (beyondD hB1.out hb3)
  have hO3 := hideD hown3
  have hs3 := hb3.size
  clear h1 h2 hown hgrow hown3 hgrow3 hnil3 hb2 hb3
  refine HU3.out.mono ?_
  rintro e w4 ⟨rfl, hb⟩
  have hZ4 := hideD (hZ3.out.past hb)
  have hB4 := hideD (beyondD hB3.out hb)
  have hs4 : w1.heap.size ≤ w4.heap.size := by have := hb.size; omega
  have hO4 : Hid (w4.ownsRow w1.heap.size 5 1 v3 1 _) := hideD (own_later hO3.out hb)
  have h4 := kc _ _ hb h3
  clear hb HU3 hZ3 hB3 hO3 h3 HU
  go_wp2_with fail
  go_loopw [3, 32] (fun v s wr => ∃ (K : Nat) (xs : List Value), K ≤ m ∧ s = .int .i64 K ∧ Hid (wr.ownsRow w1.heap.size 5 1 v (1 + 4 * K) xs) ∧ Hid (ZoneAt wr b n c) ∧ Hid (w1.heap.size ≤ wr.heap.size) ∧ Hid (Below w.heap.size w wr)) (fun _ s _ => m - (intOf s).toNat)
  case atStart => exact ⟨0, _, by omega, rfl, hO4, hZ4, hs4, hB4⟩
  case round =>
    obtain ⟨K, xs, hK, rfl, hO, hZ, hS, hB⟩ := hrel
    clear hO4 hZ4 hs4 hB4 h4
    by_cases ck : K < m
    · have hx := hZ.out.cell K (by omega)
      generalize c K = x at *
      have k1 : (K : Int) < 81 := by omega
      have k2 : (K : Int) < (m : Int) := by omega
      have s1 := hS.out
      go_wp2_with (at_builtin; refine wpList_append_own _ rfl _ _ 35 rfl w1.heap.size 5 i0 (.int .u8 0) 1 1 Tryz.underlying35 hi hz0 hz1 hz2 rfl (by decide) _ (1 + 4 * K) xs rfl (hO.out.alloc _) ⟨wr.heap.size, 0, none⟩ 4 4 [_, _, _, _] rfl rfl (news4 wr _ _ _ _ _) (fun u hu => by simp at hu; rcases hu with rfl | rfl | rfl | rfl <;> rfl) (by unfold maxLen; omega) (by omega) (by simp; omega) ?_; intro v' w5 hown5 hgrow5 hnil5)
      have hb5 : Below w1.heap.size wr w5 := ((Below.refl _ _).alloc s1 _).grown hgrow5 (by simp; omega) (by intro k hk; exact (hO.out.lt k hk).1)
      have e5 : 1 + 4 * K + 4 = 1 + 4 * (K + 1) := by omega
      rw [e5] at hown5
      have hO5 := hideD hown5
      have hZ5 := hideD (hZ.out.later hb5 hbl)
      have hS5 : Hid (w1.heap.size ≤ w5.heap.size) := by show w1.heap.size ≤ w5.heap.size; have := hb5.size; omega
      have hB5 := hideD (hB.out.trans (hb5.mono hs1))
      clear hown5 hgrow5 hnil5 hb5 e5
      go_roundw
      case rel => exact ⟨K + 1, _, by omega, by go_num, hO5, hZ5, hS5, hB5⟩
      case measure => simp [intOf]; omega
    · go_wp2_with fail
      go_ret
      refine ⟨⟨_, 1 + 4 * K, xs, rfl, by omega, by omega, own_base hO.out hs1⟩, hB.out⟩
end Go.Proofs.YtdkolgndebkloaaGreatDoor

/-
  The walk of the statement DbmOwn.
-/
namespace Go.Proofs.YtdkolgndebkloaaGreatDoor
open Go.RowKit
set_option linter.unusedVariables false
set_option maxRecDepth 100000
theorem SliceAt.later {w w' : World} {v : Value} {l : List Int} (h : SliceAt w v l) (hb : Below w.heap.size w w') : SliceAt w' v l := by
  rcases h with h | ⟨b, off, cap, rfl, hc⟩
  · exact .inl h
  · exact .inr ⟨b, off, cap, rfl, fun j hj => kc _ _ hb (hc j hj)⟩
theorem wf_list {l : List Int} (wf : ∀ z ∈ l, (Lit.int .i32 z).wf = true) : ∀ j, j < l.length → -2147483648 ≤ l.getD j 0 ∧ l.getD j 0 ≤ 2147483647 := fun j hj => by
  have e : l.getD j 0 = l[j] := by simp [List.getD, hj]
  rw [e]
  exact bounds_i32 (wf _ (List.getElem_mem hj))
set_option maxHeartbeats 1000000 in
theorem cells_own (b n : Nat) (c : Row) (w : World) (hz : ZoneAt w b n c) (hn : n ≤ 8) :
    Calls Tryz.prog 14 #[.pointer (some ⟨b, 0, none⟩)] w fun e w' => (∃ v, e = .returned v ∧ w'.ownsRow w.heap.size 47 1 v ((n + 1) * (n + 1)) ((listOf c ((n + 1) * (n + 1))).map (Value.int .i32))) ∧ Below w.heap.size w w' := by
  have HU := hideD (used_any b n w hn hz.clocks)
  have hm : (n + 1) * (n + 1) ≤ 81 := Nat.mul_le_mul (show n + 1 ≤ 9 by omega) (show n + 1 ≤ 9 by omega)
  have hp : 0 < (n + 1) * (n + 1) := Nat.mul_pos (by omega) (by omega)
  generalize (n + 1) * (n + 1) = m at *
  have hl := listOf_len c m
  obtain ⟨i0, hi, hz0, hz1, hz2⟩ := info_parts info_bd
  have HZ := hideD hz
  clear hz
  go_enter Tryz.func14, Tryz.ntmps14
  go_wp2_with fail
  refine HU.out.mono ?_
  rintro e w1 ⟨rfl, hb⟩
  have hZ1 := hideD (HZ.out.past hb)
  have hB1 := hideD hb
  have HN : Hid (∀ j u, ((listOf c m).map (Value.int .i32))[j]? = some u → w1.cell? ((⟨b, 1, none⟩ : Addr).add j) = some u) := by
    intro j u hu
    rw [Addr.add_lit]
    by_cases hj : j < m
    · rw [hZ1.out.cell j (by omega)]
      simp [listOf, hj] at hu
      simp [hu]
    · rw [List.getElem?_eq_none (by simp [hl]; omega)] at hu
      cases hu
  clear hb HU HZ
  go_wp2_with (at_builtin; refine wpList_append_own _ rfl _ _ 22 rfl w1.heap.size 47 i0 (.int .i32 0) 1 4 Tryz.underlying22 hi hz0 hz1 hz2 rfl (by decide) _ 0 [] rfl (World.ownsRow_nil _ _ _ _) ⟨b, 1, none⟩ m 81 ((listOf c m).map (Value.int .i32)) rfl (by simp [hl]) HN.out (fun x hx => by obtain ⟨z, _, rfl⟩ := List.mem_map.1 hx; rfl) (by unfold maxLen; omega) (by omega) (Nat.le_refl _) ?_; intro v' w2 hown hgrow hnil)
  have hb2 : Below w1.heap.size w1 w2 := (Below.refl _ _).grown hgrow (Nat.le_refl _) (by intro k hk; cases hk)
  go_ret
  refine ⟨⟨v', rfl, ?_⟩, beyondD hB1.out hb2⟩
  have := own_base hown hB1.out.size
  simpa using this
/-- The cells of a row are there, and may be written. -/
def Writes (w : World) (g m : Nat) : Prop := ∀ j, j < m → (∃ u, w.cell? ⟨g, j, none⟩ = some u) ∧ w.frozen? ⟨g, j, none⟩ = false
theorem Writes.set {w : World} {g m : Nat} (h : Writes w g m) (a : Addr) (x : Value) : Writes (w.setCell a x) g m := fun j hj => by
  obtain ⟨⟨u, hu⟩, hf⟩ := h j hj
  exact ⟨cell?_setCell_some hu, by rw [World.frozen?_setCell]; exact hf⟩
theorem writes_of {w : World} {base m : Nat} {E : TypeId} {v : Value} {xs : List Value} (h : w.ownsRow base E 1 v m xs) (hm : 0 < m) : ∃ g cap, v = .slice (some ⟨g, 0, none⟩) m cap ∧ base ≤ g ∧ g < w.heap.size ∧ Writes w g m := by
  obtain ⟨m', rfl⟩ : ∃ m', m = m' + 1 := ⟨m - 1, by omega⟩
  obtain ⟨g, cap, rfl⟩ := own_form h
  have hl := h.lt g rfl
  refine ⟨g, cap, rfl, hl.1, hl.2, fun j hj => ⟨?_, h.frozenAt j⟩⟩
  rw [h.cellAt j (by omega)]
  have := h.1
  exact ⟨xs[j]'(by omega), List.getElem?_eq_getElem _⟩
theorem row_of {w : World} {base g m cap : Nat} {l : List Int} (hl : l.length = m) (h : w.ownsRow base 47 1 (.slice (some ⟨g, 0, none⟩) m cap) m (l.map (Value.int .i32))) : RowAt w g 0 l := fun j hj => by
  rw [Nat.zero_add, h.cellAt j (by omega)]
  simp [List.getD, hj]
theorem zkey_nil (w : World) : Calls Tryz.prog 11 #[.pointer none] w fun e w' => e = .returned (.slice none 0 0) ∧ w' = w := by
  go_enter Tryz.func11, Tryz.ntmps11
  go_wp2_with fail
  go_ret
  exact ⟨rfl, rfl⟩
namespace dbmOwn
end dbmOwn
end Go.Proofs.YtdkolgndebkloaaGreatDoor

/-
  Key, byte by byte.
-/
namespace Go.Proofs.YtdkolgndebkloaaGreatDoor
open Go.RowKit
set_option linter.unusedVariables false
set_option maxRecDepth 100000
/-- The highest bit turned. -/
theorem xor_top (x : Int) (h0 : -2147483648 ≤ x) (h1 : x ≤ 2147483647) : bits .xor .u32 (x % 4294967296) 2147483648 = x + 2147483648 := by
  have key : (BitVec.ofInt 32 (x % 4294967296) ^^^ BitVec.ofInt 32 2147483648).toNat = (x + 2147483648).toNat := by
    rw [BitVec.toNat_xor, BitVec.toNat_ofInt, BitVec.toNat_ofInt]
    have e2 : ((2147483648 : Int) % ((2 ^ 32 : Nat) : Int)).toNat = 2 ^ 31 := by decide
    rw [e2]
    generalize hy : (x % 4294967296 % ((2 ^ 32 : Nat) : Int)).toNat = y
    have hy2 : y < 2 ^ 32 := by omega
    have a := Nat.xor_mod_two_pow (a := y) (b := 2 ^ 31) (n := 31)
    have b := Nat.xor_div_two_pow (a := y) (b := 2 ^ 31) (n := 31)
    have hd : y / 2 ^ 31 = 0 ∨ y / 2 ^ 31 = 1 := by omega
    have a' : (y ^^^ 2 ^ 31) % 2 ^ 31 = y % 2 ^ 31 := by rw [a, show 2 ^ 31 % 2 ^ 31 = 0 by decide, Nat.xor_zero]
    have b' : (y ^^^ 2 ^ 31) / 2 ^ 31 = 1 - y / 2 ^ 31 := by
      rw [b, show 2 ^ 31 / 2 ^ 31 = 1 by decide]
      rcases hd with e | e <;> rw [e] <;> rfl
    clear a b
    generalize y ^^^ 2 ^ 31 = Z at *
    omega
  show IntKind.u32.wrap ((BitVec.ofInt 32 (x % 4294967296) ^^^ BitVec.ofInt 32 2147483648).toNat : Nat) = x + 2147483648
  rw [key, IntKind.wrap_u32]
  omega
def be4 (y : Int) : List Int := [y / 16777216 % 256, y / 65536 % 256, y / 256 % 256, y % 256]
/-- The bytes of a key, up to the cell K. -/
def keyI (n : Nat) (c : Row) : Nat → List Int
  | 0 => [(n : Int)]
  | K + 1 => keyI n c K ++ be4 (c K + 2147483648)
theorem keyI_next (n : Nat) (c : Row) (K : Nat) : keyI n c (K + 1) = keyI n c K ++ be4 (c K + 2147483648) := rfl
theorem keyI_len (n : Nat) (c : Row) (K : Nat) : (keyI n c K).length = 1 + 4 * K := by
  induction K with
  | zero => rfl
  | succ K ih => simp [keyI, be4, ih]; omega
set_option maxHeartbeats 4000000 in
theorem key_exact (b n m : Nat) (c : Row) (w : World) (hn : n ≤ 8) (hm : Hid (m = (n + 1) * (n + 1))) (h81 : m ≤ 81) (hr : ∀ k, k < m → -2147483648 ≤ c k ∧ c k ≤ 2147483647) (hz : ZoneAt w b n c) :
    Calls Tryz.prog 11 #[.pointer (some ⟨b, 0, none⟩)] w fun e w' => (∃ v, e = .returned v ∧ w'.ownsRow w.heap.size 5 1 v (1 + 4 * m) ((keyI n c m).map (Value.int .u8))) ∧ Below w.heap.size w w' := by
  have HU : Hid (∀ w', w'.cell? ⟨b, 0, none⟩ = some (.int .i64 n) → Calls Tryz.prog 29 #[.pointer (some ⟨b, 0, none⟩)] w' fun e w'' => e = .returned (.slice (some ⟨b, 1, none⟩) m 81) ∧ Below w'.heap.size w' w'') := fun w' h0 => by
    have := used_any b n w' hn h0
    rw [← hm.out] at this
    exact this
  have m1 : (m : Int) ≤ 81 := by omega
  have HRR := hideD hr
  clear hr
  have h0 := hz.clocks
  have HU0 := hideD (HU.out _ h0)
  obtain ⟨i0, hi, hz0, hz1, hz2⟩ := info_parts info_u8
  have HZ := hideD hz
  clear hz
  go_enter Tryz.func11, Tryz.ntmps11
  go_wp2_with fail
  refine HU0.out.mono ?_
  rintro e w1 ⟨rfl, hb⟩
  have h1 := kc _ _ hb h0
  have hZ1 := hideD (HZ.out.past hb)
  have hB1 := hideD hb
  have hs1 := hb.size
  have hbl := hZ1.out.lt
  clear hb h0 HU0 HZ
  go_wp2_with (first
    | (refine wpList_make_own _ rfl _ _ 35 rfl w1.heap.size 5 i0 (.int .u8 0) 1 Tryz.underlying35 hi hz0 hz1 .i64 .i64 _ (1 + 4 * m) rfl rfl (by omega) (by rw [hz2]; omega) (by unfold maxLen; omega) (Nat.le_refl _) ?_; intro w2 hown hgrow; have hb2 : Below w1.heap.size w1 w2 := (Below.refl _ _).grown hgrow (Nat.le_refl _) (by intro k hk; cases hk); have h2 := kc _ _ hb2 h1; have hs2 := hb2.size)
    | (at_builtin; refine wpList_append_own _ rfl _ _ 35 rfl w1.heap.size 5 i0 (.int .u8 0) 1 1 Tryz.underlying35 hi hz0 hz1 hz2 rfl (by decide) _ 0 [] rfl (hown.alloc _) ⟨w2.heap.size, 0, none⟩ 1 1 [_] rfl rfl (news1 w2 _ _) (fun u hu => by simp at hu; subst hu; rfl) (by unfold maxLen; omega) (by omega) (by simp; omega) ?_; intro v3 w3 hown3 hgrow3 hnil3; have hb3 : Below w1.heap.size w1 w3 := (hb2.alloc hs2 _).grown hgrow3 (by simp; omega) (by intro k hk; exact (hown.lt k hk).1); have h3 := kc _ _ hb3 h1))
  have HU3 := hideD (HU.out _ h3)
  have hZ3 := hideD (hZ1.out.past hb3)
  have hB3 := hideD (beyondD hB1.out hb3)
  have hO3 := hideD hown3
  have hs3 := hb3.size
  clear h1 h2 hown hgrow hown3 hgrow3 hnil3 hb2 hb3
  refine HU3.out.mono ?_
  rintro e w4 ⟨rfl, hb⟩
  have hZ4 := hideD (hZ3.out.past hb)
  have hB4 := hideD (beyondD hB3.out hb)
  have hs4 : w1.heap.size ≤ w4.heap.size := by have := hb.size; omega
  have hO4 : Hid (w4.ownsRow w1.heap.size 5 1 v3 1 _) := hideD (own_later hO3.out hb)
  have h4 := kc _ _ hb h3
  clear hb HU3 hZ3 hB3 hO3 h3 HU
  go_wp2_with fail
  go_loopw [3, 32] (fun v s wr => ∃ (K : Nat), K ≤ m ∧ s = .int .i64 K ∧ Hid (wr.ownsRow w1.heap.size 5 1 v (1 + 4 * K) ((keyI n c K).map (Value.int .u8))) ∧ Hid (ZoneAt wr b n c) ∧ Hid (w1.heap.size ≤ wr.heap.size) ∧ Hid (Below w.heap.size w wr)) (fun _ s _ => m - (intOf s).toNat)
  case atStart => exact ⟨0, by omega, rfl, hO4, hZ4, hs4, hB4⟩
  case round =>
    obtain ⟨K, hK, rfl, hO, hZ, hS, hB⟩ := hrel
    clear hO4 hZ4 hs4 hB4 h4
    by_cases ck : K < m
    · have hx := hZ.out.cell K (by omega)
      have NX := hideD (keyI_next n c K)
      have xr := HRR.out K ck
      generalize c K = x at *
      have XX : Hid (bits .xor .u32 (x % 4294967296) 2147483648 = x + 2147483648) := xor_top x xr.1 xr.2
      have k1 : (K : Int) < 81 := by omega
      have k2 : (K : Int) < (m : Int) := by omega
      have s1 := hS.out
      go_wp2_with (at_builtin; refine wpList_append_own _ rfl _ _ 35 rfl w1.heap.size 5 i0 (.int .u8 0) 1 1 Tryz.underlying35 hi hz0 hz1 hz2 rfl (by decide) _ (1 + 4 * K) ((keyI n c K).map (Value.int .u8)) rfl (hO.out.alloc _) ⟨wr.heap.size, 0, none⟩ 4 4 [_, _, _, _] rfl rfl (news4 wr _ _ _ _ _) (fun u hu => by simp at hu; rcases hu with rfl | rfl | rfl | rfl <;> rfl) (by unfold maxLen; omega) (by omega) (by simp; omega) ?_; intro v' w5 hown5 hgrow5 hnil5)
      have hb5 : Below w1.heap.size wr w5 := ((Below.refl _ _).alloc s1 _).grown hgrow5 (by simp; omega) (by intro k hk; exact (hO.out.lt k hk).1)
      have e5 : 1 + 4 * K + 4 = 1 + 4 * (K + 1) := by omega
      rw [e5, XX.out] at hown5
      have hO5 : Hid (w5.ownsRow w1.heap.size 5 1 v' (1 + 4 * (K + 1)) ((keyI n c (K + 1)).map (Value.int .u8))) := by
        show World.ownsRow _ _ _ _ _ _ _
        rw [NX.out, List.map_append]
        exact hown5
      have hZ5 := hideD (hZ.out.later hb5 hbl)
      have hS5 : Hid (w1.heap.size ≤ w5.heap.size) := by show w1.heap.size ≤ w5.heap.size; have := hb5.size; omega
      have hB5 := hideD (hB.out.trans (hb5.mono hs1))
      clear hown5 hgrow5 hnil5 hb5 e5
      go_roundw
      case rel => exact ⟨K + 1, by omega, by go_num, hO5, hZ5, hS5, hB5⟩
      case measure => simp [intOf]; omega
    · go_wp2_with fail
      go_ret
      have ek : K = m := by omega
      subst ek
      exact ⟨⟨_, rfl, own_base hO.out hs1⟩, hB.out⟩
end Go.Proofs.YtdkolgndebkloaaGreatDoor

/-
  The order of keys is that of their matrices.
-/
namespace Go.Proofs.YtdkolgndebkloaaGreatDoor
open Go.RowKit
set_option linter.unusedVariables false
def keyU (l : List Int) : List UInt8 := l.map fun z => UInt8.ofNat z.toNat
/-- The bytes of the cells from k on. -/
def keyT (c : Row) : Nat → Nat → List Int
  | _, 0 => []
  | k, r + 1 => be4 (c k + 2147483648) ++ keyT c (k + 1) r
theorem keyT_snoc (c : Row) (r : Nat) : ∀ k, keyT c k (r + 1) = keyT c k r ++ be4 (c (k + r) + 2147483648) := by
  induction r with
  | zero => intro k; simp [keyT]
  | succ r ih =>
    intro k
    rw [keyT, ih (k + 1), keyT, List.append_assoc, show k + 1 + r = k + (r + 1) by omega]
theorem keyI_head (n : Nat) (c : Row) (m : Nat) : keyI n c m = (n : Int) :: keyT c 0 m := by
  induction m with
  | zero => rfl
  | succ m ih => rw [keyI, ih, keyT_snoc]; simp
/-- Which of two rows comes first, from k on. -/
def firstLess (c d : Row) : Nat → Nat → Bool
  | _, 0 => false
  | k, r + 1 => if c k < d k then true else if d k < c k then false else firstLess c d (k + 1) r
theorem u8_lt {a b : Int} (a0 : 0 ≤ a) (a1 : a < 256) (b0 : 0 ≤ b) (b1 : b < 256) : (UInt8.ofNat a.toNat < UInt8.ofNat b.toNat) ↔ a < b := by
  rw [UInt8.lt_iff_toNat_lt, UInt8.toNat_ofNat', UInt8.toNat_ofNat']
  omega
theorem u8_eq {a b : Int} (a0 : 0 ≤ a) (a1 : a < 256) (b0 : 0 ≤ b) (b1 : b < 256) : (UInt8.ofNat a.toNat = UInt8.ofNat b.toNat) ↔ a = b := by
  rw [← UInt8.toNat_inj, UInt8.toNat_ofNat', UInt8.toNat_ofNat']
  omega
theorem beq_dec {a b : UInt8} {p : Prop} [Decidable p] (h : a = b ↔ p) : (a == b) = decide p := by
  rw [Bool.eq_iff_iff, beq_iff_eq, decide_eq_true_eq]
  exact h
theorem digits (x : Int) (x0 : 0 ≤ x) (x1 : x < 4294967296) : ∃ a b c d : Int, x / 16777216 % 256 = a ∧ x / 65536 % 256 = b ∧ x / 256 % 256 = c ∧ x % 256 = d ∧ x = a * 16777216 + b * 65536 + c * 256 + d ∧ (0 ≤ a ∧ a < 256) ∧ (0 ≤ b ∧ b < 256) ∧ (0 ≤ c ∧ c < 256) ∧ 0 ≤ d ∧ d < 256 := by
  have h2 : x / 65536 = x / 256 / 256 := by omega
  have h3 : x / 16777216 = x / 256 / 256 / 256 := by omega
  refine ⟨_, _, _, _, rfl, rfl, rfl, rfl, ?_, by omega, by omega, by omega, by omega⟩
  rw [h2, h3]
  omega
theorem less4 (x y : Int) (x0 : 0 ≤ x) (x1 : x < 4294967296) (y0 : 0 ≤ y) (y1 : y < 4294967296) (s t : List Int) :
    Op.bytesLess (keyU (be4 x ++ s)) (keyU (be4 y ++ t)) = if x < y then true else if y < x then false else Op.bytesLess (keyU s) (keyU t) := by
  have l3 := u8_lt (a := x / 16777216 % 256) (b := y / 16777216 % 256) (by omega) (by omega) (by omega) (by omega)
  have l2 := u8_lt (a := x / 65536 % 256) (b := y / 65536 % 256) (by omega) (by omega) (by omega) (by omega)
  have l1 := u8_lt (a := x / 256 % 256) (b := y / 256 % 256) (by omega) (by omega) (by omega) (by omega)
  have l0 := u8_lt (a := x % 256) (b := y % 256) (by omega) (by omega) (by omega) (by omega)
  have e3 := u8_eq (a := x / 16777216 % 256) (b := y / 16777216 % 256) (by omega) (by omega) (by omega) (by omega)
  have e2 := u8_eq (a := x / 65536 % 256) (b := y / 65536 % 256) (by omega) (by omega) (by omega) (by omega)
  have e1 := u8_eq (a := x / 256 % 256) (b := y / 256 % 256) (by omega) (by omega) (by omega) (by omega)
  have e0 := u8_eq (a := x % 256) (b := y % 256) (by omega) (by omega) (by omega) (by omega)
  simp only [keyU, be4, List.cons_append, List.nil_append, List.map_cons, Op.bytesLess, decide_eq_decide.2 l3, decide_eq_decide.2 l2, decide_eq_decide.2 l1, decide_eq_decide.2 l0, beq_dec e3, beq_dec e2, beq_dec e1, beq_dec e0]
  clear l3 l2 l1 l0 e3 e2 e1 e0
  obtain ⟨a3, a2, a1, a0, p3, p2, p1, p0, px, r3, r2, r1, r0⟩ := digits x x0 x1
  obtain ⟨b3, b2, b1, b0, q3, q2, q1, q0, qx, s3, s2, s1, s0⟩ := digits y y0 y1
  rw [p3, p2, p1, p0, q3, q2, q1, q0]
  clear p3 p2 p1 p0 q3 q2 q1 q0
  generalize Op.bytesLess (List.map (fun z => UInt8.ofNat z.toNat) s) (List.map (fun z => UInt8.ofNat z.toNat) t) = q
  split
  · have k : a3 < b3 ∨ (a3 = b3 ∧ (a2 < b2 ∨ (a2 = b2 ∧ (a1 < b1 ∨ (a1 = b1 ∧ a0 < b0))))) := by omega
    simp only [Bool.or_eq_true, Bool.and_eq_true, decide_eq_true_eq]
    rcases k with k | ⟨k, k2 | ⟨k2, k3 | ⟨k3, k4⟩⟩⟩
    · exact .inl k
    · exact .inr ⟨k, .inl k2⟩
    · exact .inr ⟨k, .inr ⟨k2, .inl k3⟩⟩
    · exact .inr ⟨k, .inr ⟨k2, .inr ⟨k3, .inl k4⟩⟩⟩
  · split
    · simp only [Bool.or_eq_false_iff, Bool.and_eq_false_imp, decide_eq_true_eq, decide_eq_false_iff_not]
      omega
    · obtain rfl : a3 = b3 := by omega
      obtain rfl : a2 = b2 := by omega
      obtain rfl : a1 = b1 := by omega
      obtain rfl : a0 = b0 := by omega
      simp
theorem less_key (c d : Row) (r : Nat) : ∀ k, (∀ j, k ≤ j → j < k + r → (-2147483648 ≤ c j ∧ c j ≤ 2147483647) ∧ (-2147483648 ≤ d j ∧ d j ≤ 2147483647)) → Op.bytesLess (keyU (keyT c k r)) (keyU (keyT d k r)) = firstLess c d k r := by
  induction r with
  | zero => intro k h; rfl
  | succ r ih =>
    intro k h
    obtain ⟨⟨a0, a1⟩, b0, b1⟩ := h k (Nat.le_refl _) (by omega)
    rw [keyT, keyT, less4 _ _ (by omega) (by omega) (by omega) (by omega), ih (k + 1) (fun j h1 h2 => h j (by omega) (by omega)), firstLess]
    repeat' split
    all_goals first | rfl | (exfalso; omega)
/-- The keys of one number of clocks, in order. -/
theorem less_keys (n m : Nat) (c d : Row) (h : ∀ j, j < m → (-2147483648 ≤ c j ∧ c j ≤ 2147483647) ∧ (-2147483648 ≤ d j ∧ d j ≤ 2147483647)) :
    Op.bytesLess (keyU (keyI n c m)) (keyU (keyI n d m)) = firstLess c d 0 m := by
  rw [keyI_head, keyI_head, ← less_key c d m 0 (fun j _ hj => h j (by omega))]
  simp [keyU, Op.bytesLess]
end Go.Proofs.YtdkolgndebkloaaGreatDoor
