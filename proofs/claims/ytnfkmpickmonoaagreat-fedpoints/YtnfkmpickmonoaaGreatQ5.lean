/-
  The document's answer for layer 3: the sum of two wide bounds, and the wide cells of a row.
-/
import Derived.Test.YtnfkmpickmonoaaGreatQ4
import Derived.Laws.BitsLemmas
import Derived.Laws.OwnMore
namespace Go.Proofs.YtnfkmpickmonoaaGreat
open Go.RowKit
set_option linter.unusedVariables false
set_option maxRecDepth 100000
theorem i64_and1 (n : Int) : bits .and .i64 n 1 = n % 2 := by
  have h1 : (BitVec.ofInt 64 1).toNat = 2 ^ 1 - 1 := by decide
  have key : (BitVec.ofInt 64 n &&& BitVec.ofInt 64 1).toNat = (n % ((2 ^ 64 : Nat) : Int)).toNat % 2 ^ 1 := by
    rw [BitVec.toNat_and, BitVec.toNat_ofInt, h1, Nat.and_two_pow_sub_one_eq_mod]
  show IntKind.i64.wrap ((BitVec.ofInt 64 n &&& BitVec.ofInt 64 1).toNat : Nat) = n % 2
  rw [key, IntKind.wrap_i64]
  omega
theorem i64_or_odd (a b : Int) : bits .or .i64 a b % 2 = if a % 2 = 1 ∨ b % 2 = 1 then 1 else 0 := by
  have key : (BitVec.ofInt 64 a ||| BitVec.ofInt 64 b).toNat % 2 = 1 ↔ (a % ((2 ^ 64 : Nat) : Int)).toNat % 2 = 1 ∨ (b % ((2 ^ 64 : Nat) : Int)).toNat % 2 = 1 := by
    rw [BitVec.toNat_or, BitVec.toNat_ofInt, BitVec.toNat_ofInt, Nat.or_mod_two_eq_one]
  show IntKind.i64.wrap ((BitVec.ofInt 64 a ||| BitVec.ofInt 64 b).toNat : Nat) % 2 = _
  rw [IntKind.wrap_i64]
  generalize (BitVec.ofInt 64 a ||| BitVec.ofInt 64 b).toNat = x at *
  split <;> omega
def rplus (a b : Int) : Int := if a = opn ∨ b = opn then opn else if ¬ a.tmod 2 = 0 ∨ ¬ b.tmod 2 = 0 then wrap64 (wrap64 (a + b) - 1) else wrap64 (a + b)
theorem wrap_wrap (x : Int) : wrap64 (wrap64 x - 0) = wrap64 x := by unfold wrap64; omega
theorem rplus_eq (a b : Int) : rplus a b = dplus a b := by
  unfold rplus dplus
  split
  · rfl
  · rw [i64_and1, i64_or_odd]
    have ha : (¬ a.tmod 2 = 0) ↔ a % 2 = 1 := by have := Int.emod_two_eq a; have := Int.mul_tdiv_add_tmod a 2; have := Int.lt_tmod_of_pos a (show (0 : Int) < 2 by decide); have := Int.tmod_lt_of_pos a (show (0 : Int) < 2 by decide); omega
    have hb : (¬ b.tmod 2 = 0) ↔ b % 2 = 1 := by have := Int.emod_two_eq b; have := Int.mul_tdiv_add_tmod b 2; have := Int.lt_tmod_of_pos b (show (0 : Int) < 2 by decide); have := Int.tmod_lt_of_pos b (show (0 : Int) < 2 by decide); omega
    simp only [ha, hb]
    split
    · rfl
    · exact (wrap_wrap _).symm
theorem rplus_any (a b : Int) (w : World) :
    Calls Tryz.prog 90 #[.int .i64 a, .int .i64 b] w fun e w' => e = .returned (.int .i64 (dplus a b)) ∧ w' = w := by
  rw [← rplus_eq]
  by_cases h : a = opn
  · have e : rplus a b = opn := by simp [rplus, h]
    rw [e]
    clear e
    unfold opn at *
    go_enter Tryz.func90, Tryz.ntmps90
    go_wp2
    all_goals go_ret
    all_goals first | exact ⟨rfl, rfl⟩ | (exfalso; omega) | (exfalso; simp_all; done) | (rename_i hh; exfalso; simp at hh; omega)
  · by_cases h1 : b = opn
    · have e : rplus a b = opn := by simp [rplus, h1]
      rw [e]
      clear e
      unfold opn at *
      go_enter Tryz.func90, Tryz.ntmps90
      go_wp2
      all_goals go_ret
      all_goals first | exact ⟨rfl, rfl⟩ | (exfalso; omega) | (exfalso; simp_all; done) | (rename_i hh; exfalso; simp at hh; omega)
    · have e : rplus a b = if ¬ a.tmod 2 = 0 ∨ ¬ b.tmod 2 = 0 then wrap64 (wrap64 (a + b) - 1) else wrap64 (a + b) := by simp [rplus, h, h1]
      rw [e]
      clear e
      unfold opn at *
      have t1 : (a == 4611686018427387904) = false := by simpa using h
      have t2 : (b == 4611686018427387904) = false := by simpa using h1
      clear h h1
      by_cases ca : a.tmod 2 = 0
      · by_cases cb : b.tmod 2 = 0
        · rw [if_neg (by omega)]
          go_enter Tryz.func90, Tryz.ntmps90
          go_wp2
          all_goals go_ret
          all_goals first | exact ⟨rfl, rfl⟩ | (exfalso; simp_all; done)
        · rw [if_pos (by omega)]
          have cb' : (b.tmod 2 != 0) = true := by simpa using cb
          go_enter Tryz.func90, Tryz.ntmps90
          go_wp2
          all_goals go_ret
          all_goals first | exact ⟨rfl, rfl⟩ | (exfalso; simp_all; done)
      · rw [if_pos (by omega)]
        have ca' : (a.tmod 2 != 0) = true := by simpa using ca
        go_enter Tryz.func90, Tryz.ntmps90
        go_wp2
        all_goals go_ret
        all_goals first | exact ⟨rfl, rfl⟩ | (exfalso; simp_all; done)
end Go.Proofs.YtnfkmpickmonoaaGreat

/-
  The document's answer for layer 3: the wide cells of a row.
-/
namespace Go.Proofs.YtnfkmpickmonoaaGreat
open Go.RowKit
set_option linter.unusedVariables false
set_option maxRecDepth 100000
theorem info_i64 : (Tryz.prog.info? 2).map (fun i => (i.zero, i.size, i.bytes)) = some (some (.int .i64 0), 1, 8) := by kernel_rfl
def wideV (x : Int) : Int := if x = 2147483647 then 4611686018427387904 else x
def wideL (l : List Int) (k : Nat) : List Int := (l.take k).map wideV
theorem wideL_next (l : List Int) (k : Nat) (h : k < l.length) : wideL l (k + 1) = wideL l k ++ [wideV (l.getD k 0)] := by
  unfold wideL
  rw [List.take_succ_eq_append_getElem h, List.map_append]
  congr 1
  simp [List.getD, h]
set_option maxHeartbeats 2000000 in
theorem wide_any (cb off cap : Nat) (l : List Int) (w : World) (hl : l.length ≤ 81) (hR : RowAt w cb off l) (hcb : cb < w.heap.size) (hi : ∀ j, j < l.length → -2147483648 ≤ l.getD j 0 ∧ l.getD j 0 ≤ 2147483647) :
    Calls Tryz.prog 43 #[.slice (some ⟨cb, off, none⟩) l.length cap] w fun e w' => ∃ v, e = .returned v ∧ w'.ownsRow w.heap.size 2 1 v l.length ((wideL l l.length).map (Value.int .i64)) ∧ Below w.heap.size w w' := by
  obtain ⟨i0, hi0, hz0, hz1, hz2⟩ := info_parts info_i64
  have HI := hideD hi
  have HR := hideD hR
  clear hi hR
  have hl1 : (l.length : Int) ≤ 81 := by omega
  go_enter Tryz.func43, Tryz.ntmps43
  go_wp2_with fail
  go_loopw [3, 4] (fun v i wr => ∃ k : Nat, k ≤ l.length ∧ i = .int .i64 k ∧ Hid (wr.ownsRow w.heap.size 2 1 v k ((wideL l k).map (Value.int .i64))) ∧ Hid (Below w.heap.size w wr)) (fun _ i _ => l.length - (intOf i).toNat)
  case atStart => exact ⟨0, Nat.zero_le _, rfl, World.ownsRow_nil _ _ _ _, Below.refl _ _⟩
  case round =>
    obtain ⟨k, hk, rfl, hown, hB⟩ := hrel
    by_cases hlt : k < l.length
    · have hcell := (HR.out.later hB.out hcb) k hlt
      obtain ⟨x0, x1⟩ := HI.out k hlt
      have nx := hideD (wideL_next l k hlt)
      have hsz := hB.out.size
      generalize l.getD k 0 = x at *
      by_cases cx : x = 2147483647
      · have ew : wideV x = 4611686018427387904 := by simp [wideV, cx]
        rw [ew] at nx
        subst cx
        have HN : Hid (∀ j u, [Value.int .i64 4611686018427387904][j]? = some u → (wr.alloc (.cells #[.int .i64 4611686018427387904] 2)).cell? ((⟨wr.heap.size, 0, none⟩ : Addr).add j) = some u) := by
          intro j u hj
          match j, hj with
          | 0, hj => simp at hj; subst hj; simp [Addr.add]
        go_wp2_with (at_builtin; refine wpList_append_own _ rfl _ _ 86 rfl w.heap.size 2 i0 (.int .i64 0) 1 8 Tryz.underlying86 hi0 hz0 hz1 hz2 rfl (by decide) _ k ((wideL l k).map (Value.int .i64)) rfl (hown.out.alloc _) ⟨wr.heap.size, 0, none⟩ 1 1 [.int .i64 4611686018427387904] rfl rfl HN.out (fun u hu => by simp at hu; subst hu; rfl) (by unfold maxLen; omega) (by omega) (by simp; omega) ?_; intro v' w1 hown' hgrow hnil)
        have hb1 : Below w.heap.size w w1 := (hB.out.alloc hsz _).grown hgrow (by simp; omega) (by intro q hq; exact (hown.out.lt q hq).1)
        have ho := hideD hown'
        have hb2 := hideD hb1
        have nx' : Hid (w1.ownsRow w.heap.size 2 1 v' (k + 1) ((wideL l (k + 1)).map (Value.int .i64))) := by
          show w1.ownsRow _ _ _ _ _ _
          rw [nx.out, List.map_append]
          exact ho.out
        clear hown' hgrow hnil hb1 ho nx hown HN
        go_wp2_with fail
        go_roundw
        case rel => exact ⟨k + 1, by omega, by go_num, nx', hb2⟩
        case measure => simp [intOf]; omega
      · have ew : wideV x = x := by simp [wideV, cx]
        rw [ew] at nx
        have ex : wrap64 x = x := by unfold wrap64; omega
        have cx' : (x == 2147483647) = false := by simpa using cx
        have HN : Hid (∀ j u, [Value.int .i64 x][j]? = some u → (wr.alloc (.cells #[.int .i64 x] 2)).cell? ((⟨wr.heap.size, 0, none⟩ : Addr).add j) = some u) := by
          intro j u hj
          match j, hj with
          | 0, hj => simp at hj; subst hj; simp [Addr.add]
        go_wp2_with (at_builtin; refine wpList_append_own _ rfl _ _ 86 rfl w.heap.size 2 i0 (.int .i64 0) 1 8 Tryz.underlying86 hi0 hz0 hz1 hz2 rfl (by decide) _ k ((wideL l k).map (Value.int .i64)) rfl (hown.out.alloc _) ⟨wr.heap.size, 0, none⟩ 1 1 [.int .i64 x] rfl rfl HN.out (fun u hu => by simp at hu; subst hu; rfl) (by unfold maxLen; omega) (by omega) (by simp; omega) ?_; intro v' w1 hown' hgrow hnil)
        have hb1 : Below w.heap.size w w1 := (hB.out.alloc hsz _).grown hgrow (by simp; omega) (by intro q hq; exact (hown.out.lt q hq).1)
        have ho := hideD hown'
        have hb2 := hideD hb1
        have nx' : Hid (w1.ownsRow w.heap.size 2 1 v' (k + 1) ((wideL l (k + 1)).map (Value.int .i64))) := by
          show w1.ownsRow _ _ _ _ _ _
          rw [nx.out, List.map_append]
          exact ho.out
        clear hown' hgrow hnil hb1 ho nx hown HN
        go_wp2_with fail
        go_roundw
        case rel => exact ⟨k + 1, by omega, by go_num, nx', hb2⟩
        case measure => simp [intOf]; omega
    · have st : Hid (k = l.length) := by show k = _; omega
      go_wp2_with fail
      go_ret
      refine ⟨_, rfl, ?_, hB.out⟩
      have e := st.out
      subst e
      exact hown.out
end Go.Proofs.YtnfkmpickmonoaaGreat
