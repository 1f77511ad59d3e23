/-
  Key, byte by byte.
-/
import Derived.Test.YtdceldpcankcaaaKa
namespace Go.Proofs.Ytdceldpcankcaaa
open Go.RowKit
set_option linter.unusedVariables false
set_option maxRecDepth 100000
/-- The highest bit turned. -/
theorem xor_top (x : Int) (h0 : -2147483648 ≤ x) (h1 : x ≤ 2147483647) : bits .xor .u32 (x % 4294967296) 2147483648 = x + 2147483648 := by
  have key : (BitVec.ofInt 32 (x % 4294967296) ^^^ BitVec.ofInt 32 2147483648).toNat = (x + 2147483648).toNat := by
    rw [BitVec.toNat_xor, BitVec.toNat_ofInt, BitVec.toNat_ofInt]
    have e2 : ((2147483648 : Int) % ((2 ^ 32 : Nat) : Int)).toNat = 2 ^ 31 := by decide
    rw [e2]
    generalize hy : (x % 4294967296 % ((2 ^ 32 : Nat) : Int)).toNat = y
    have hy2 : y < 2 ^ 32 := by omega
    have a := Nat.xor_mod_two_pow (a := y) (b := 2 ^ 31) (n := 31)
    have b := Nat.xor_div_two_pow (a := y) (b := 2 ^ 31) (n := 31)
    have hd : y / 2 ^ 31 = 0 ∨ y / 2 ^ 31 = 1 := by omega
    have a' : (y ^^^ 2 ^ 31) % 2 ^ 31 = y % 2 ^ 31 := by rw [a, show 2 ^ 31 % 2 ^ 31 = 0 by decide, Nat.xor_zero]
    have b' : (y ^^^ 2 ^ 31) / 2 ^ 31 = 1 - y / 2 ^ 31 := by
      rw [b, show 2 ^ 31 / 2 ^ 31 = 1 by decide]
      rcases hd with e | e <;> rw [e] <;> rfl
    clear a b
    generalize y ^^^ 2 ^ 31 = Z at *
    omega
  show IntKind.u32.wrap ((BitVec.ofInt 32 (x % 4294967296) ^^^ BitVec.ofInt 32 2147483648).toNat : Nat) = x + 2147483648
  rw [key, IntKind.wrap_u32]
  omega
def be4 (y : Int) : List Int := [y / 16777216 % 256, y / 65536 % 256, y / 256 % 256, y % 256]
/-- The bytes of a key, up to the cell K. -/
def keyI (n : Nat) (c : Row) : Nat → List Int
  | 0 => [(n : Int)]
  | K + 1 => keyI n c K ++ be4 (c K + 2147483648)
theorem keyI_next (n : Nat) (c : Row) (K : Nat) : keyI n c (K + 1) = keyI n c K ++ be4 (c K + 2147483648) := rfl
theorem keyI_len (n : Nat) (c : Row) (K : Nat) : (keyI n c K).length = 1 + 4 * K := by
  induction K with
  | zero => rfl
  | succ K ih => simp [keyI, be4, ih]; omega
set_option maxHeartbeats 4000000 in
theorem key_exact (b n m : Nat) (c : Row) (w : World) (hn : n ≤ 8) (hm : Hid (m = (n + 1) * (n + 1))) (h81 : m ≤ 81) (hr : ∀ k, k < m → -2147483648 ≤ c k ∧ c k ≤ 2147483647) (hz : ZoneAt w b n c) :
    Calls Try.prog 7 #[.pointer (some ⟨b, 0, none⟩)] w fun e w' => (∃ v, e = .returned v ∧ w'.ownsRow w.heap.size 5 1 v (1 + 4 * m) ((keyI n c m).map (Value.int .u8))) ∧ Below w.heap.size w w' := by
  have HU : Hid (∀ w', w'.cell? ⟨b, 0, none⟩ = some (.int .i64 n) → Calls Try.prog 20 #[.pointer (some ⟨b, 0, none⟩)] w' fun e w'' => e = .returned (.slice (some ⟨b, 1, none⟩) m 81) ∧ Below w'.heap.size w' w'') := fun w' h0 => by
    have := used_any b n w' hn h0
    rw [← hm.out] at this
    exact this
  have m1 : (m : Int) ≤ 81 := by omega
  have HRR := hideD hr
  clear hr
  have h0 := hz.clocks
  have HU0 := hideD (HU.out _ h0)
  obtain ⟨i0, hi, hz0, hz1, hz2⟩ := info_parts info_u8
  have HZ := hideD hz
  clear hz
  go_enter Try.func7, Try.ntmps7
  go_wp2_with fail
  refine HU0.out.mono ?_
  rintro e w1 ⟨rfl, hb⟩
  have h1 := kc _ _ hb h0
  have hZ1 := hideD (HZ.out.past hb)
  have hB1 := hideD hb
  have hs1 := hb.size
  have hbl := hZ1.out.lt
  clear hb h0 HU0 HZ
  go_wp2_with (first
    | (refine wpList_make_own _ rfl _ _ 30 rfl w1.heap.size 5 i0 (.int .u8 0) 1 Try.underlying30 hi hz0 hz1 .i64 .i64 _ (1 + 4 * m) rfl rfl (by omega) (by rw [hz2]; omega) (by unfold maxLen; omega) (Nat.le_refl _) ?_; intro w2 hown hgrow; have hb2 : Below w1.heap.size w1 w2 := (Below.refl _ _).grown hgrow (Nat.le_refl _) (by intro k hk; cases hk); have h2 := kc _ _ hb2 h1; have hs2 := hb2.size)
    | (at_builtin; refine wpList_append_own _ rfl _ _ 30 rfl w1.heap.size 5 i0 (.int .u8 0) 1 1 Try.underlying30 hi hz0 hz1 hz2 rfl (by decide) _ 0 [] rfl (hown.alloc _) ⟨w2.heap.size, 0, none⟩ 1 1 [_] rfl rfl (news1 w2 _ _) (fun u hu => by simp at hu; subst hu; rfl) (by unfold maxLen; omega) (by omega) (by simp; omega) ?_; intro v3 w3 hown3 hgrow3 hnil3; have hb3 : Below w1.heap.size w1 w3 := (hb2.alloc hs2 _).grown hgrow3 (by simp; omega) (by intro k hk; exact (hown.lt k hk).1); have h3 := kc _ _ hb3 h1))
  have HU3 := hideD (HU.out _ h3)
  have hZ3 := hideD (hZ1.out.past hb3)
  have hB3 := hideD (beyondD hB1.out hb3)
  have hO3 := hideD hown3
  have hs3 := hb3.size
  clear h1 h2 hown hgrow hown3 hgrow3 hnil3 hb2 hb3
  refine HU3.out.mono ?_
  rintro e w4 ⟨rfl, hb⟩
  have hZ4 := hideD (hZ3.out.past hb)
  have hB4 := hideD (beyondD hB3.out hb)
  have hs4 : w1.heap.size ≤ w4.heap.size := by have := hb.size; omega
  have hO4 : Hid (w4.ownsRow w1.heap.size 5 1 v3 1 _) := hideD (own_later hO3.out hb)
  have h4 := kc _ _ hb h3
  clear hb HU3 hZ3 hB3 hO3 h3 HU
  go_wp2_with fail
  go_loopw [3, 32] (fun v s wr => ∃ (K : Nat), K ≤ m ∧ s = .int .i64 K ∧ Hid (wr.ownsRow w1.heap.size 5 1 v (1 + 4 * K) ((keyI n c K).map (Value.int .u8))) ∧ Hid (ZoneAt wr b n c) ∧ Hid (w1.heap.size ≤ wr.heap.size) ∧ Hid (Below w.heap.size w wr)) (fun _ s _ => m - (intOf s).toNat)
  case atStart => exact ⟨0, by omega, rfl, hO4, hZ4, hs4, hB4⟩
  case round =>
    obtain ⟨K, hK, rfl, hO, hZ, hS, hB⟩ := hrel
    clear hO4 hZ4 hs4 hB4 h4
    by_cases ck : K < m
    · have hx := hZ.out.cell K (by omega)
      have NX := hideD (keyI_next n c K)
      have xr := HRR.out K ck
      generalize c K = x at *
      have XX : Hid (bits .xor .u32 (x % 4294967296) 2147483648 = x + 2147483648) := xor_top x xr.1 xr.2
      have k1 : (K : Int) < 81 := by omega
      have k2 : (K : Int) < (m : Int) := by omega
      have s1 := hS.out
      go_wp2_with (at_builtin; refine wpList_append_own _ rfl _ _ 30 rfl w1.heap.size 5 i0 (.int .u8 0) 1 1 Try.underlying30 hi hz0 hz1 hz2 rfl (by decide) _ (1 + 4 * K) ((keyI n c K).map (Value.int .u8)) rfl (hO.out.alloc _) ⟨wr.heap.size, 0, none⟩ 4 4 [_, _, _, _] rfl rfl (news4 wr _ _ _ _ _) (fun u hu => by simp at hu; rcases hu with rfl | rfl | rfl | rfl <;> rfl) (by unfold maxLen; omega) (by omega) (by simp; omega) ?_; intro v' w5 hown5 hgrow5 hnil5)
      have hb5 : Below w1.heap.size wr w5 := ((Below.refl _ _).alloc s1 _).grown hgrow5 (by simp; omega) (by intro k hk; exact (hO.out.lt k hk).1)
      have e5 : 1 + 4 * K + 4 = 1 + 4 * (K + 1) := by omega
      rw [e5, XX.out] at hown5
      have hO5 : Hid (w5.ownsRow w1.heap.size 5 1 v' (1 + 4 * (K + 1)) ((keyI n c (K + 1)).map (Value.int .u8))) := by
        show World.ownsRow _ _ _ _ _ _ _
        rw [NX.out, List.map_append]
        exact hown5
      have hZ5 := hideD (hZ.out.later hb5 hbl)
      have hS5 : Hid (w1.heap.size ≤ w5.heap.size) := by show w1.heap.size ≤ w5.heap.size; have := hb5.size; omega
      have hB5 := hideD (hB.out.trans (hb5.mono hs1))
      clear hown5 hgrow5 hnil5 hb5 e5
      go_roundw
      case rel => exact ⟨K + 1, by omega, by go_num, hO5, hZ5, hS5, hB5⟩
      case measure => simp [intOf]; omega
    · go_wp2_with fail
      go_ret
      have ek : K = m := by omega
      subst ek
      exact ⟨⟨_, rfl, own_base hO.out hs1⟩, hB.out⟩
end Go.Proofs.Ytdceldpcankcaaa
