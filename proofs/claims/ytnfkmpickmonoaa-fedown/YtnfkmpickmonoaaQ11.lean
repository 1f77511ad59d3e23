/-
  The document's answer for layer 3: the wide cells of a row.
-/
import Derived.Test.YtnfkmpickmonoaaQ10
import Derived.Laws.OwnMore
namespace Go.Proofs.Ytnfkmpickmonoaa
open Go.RowKit
set_option linter.unusedVariables false
set_option maxRecDepth 100000
theorem info_i64 : (Try.prog.info? 2).map (fun i => (i.zero, i.size, i.bytes)) = some (some (.int .i64 0), 1, 8) := by kernel_rfl
def wideV (x : Int) : Int := if x = 2147483647 then 4611686018427387904 else x
def wideL (l : List Int) (k : Nat) : List Int := (l.take k).map wideV
theorem wideL_next (l : List Int) (k : Nat) (h : k < l.length) : wideL l (k + 1) = wideL l k ++ [wideV (l.getD k 0)] := by
  unfold wideL
  rw [List.take_succ_eq_append_getElem h, List.map_append]
  congr 1
  simp [List.getD, h]
set_option maxHeartbeats 2000000 in
theorem wide_any (cb off cap : Nat) (l : List Int) (w : World) (hl : l.length ≤ 81) (hR : RowAt w cb off l) (hcb : cb < w.heap.size) (hi : ∀ j, j < l.length → -2147483648 ≤ l.getD j 0 ∧ l.getD j 0 ≤ 2147483647) :
    Calls Try.prog 37 #[.slice (some ⟨cb, off, none⟩) l.length cap] w fun e w' => ∃ v, e = .returned v ∧ w'.ownsRow w.heap.size 2 1 v l.length ((wideL l l.length).map (Value.int .i64)) ∧ Below w.heap.size w w' := by
  obtain ⟨i0, hi0, hz0, hz1, hz2⟩ := info_parts info_i64
  have HI := hideD hi
  have HR := hideD hR
  clear hi hR
  have hl1 : (l.length : Int) ≤ 81 := by omega
  go_enter Try.func37, Try.ntmps37
  go_wp2_with fail
  go_loopw [3, 4] (fun v i wr => ∃ k : Nat, k ≤ l.length ∧ i = .int .i64 k ∧ Hid (wr.ownsRow w.heap.size 2 1 v k ((wideL l k).map (Value.int .i64))) ∧ Hid (Below w.heap.size w wr)) (fun _ i _ => l.length - (intOf i).toNat)
  case atStart => exact ⟨0, Nat.zero_le _, rfl, World.ownsRow_nil _ _ _ _, Below.refl _ _⟩
  case round =>
    obtain ⟨k, hk, rfl, hown, hB⟩ := hrel
    by_cases hlt : k < l.length
    · have hcell := (HR.out.later hB.out hcb) k hlt
      obtain ⟨x0, x1⟩ := HI.out k hlt
      have nx := hideD (wideL_next l k hlt)
      have hsz := hB.out.size
      generalize l.getD k 0 = x at *
      by_cases cx : x = 2147483647
      · have ew : wideV x = 4611686018427387904 := by simp [wideV, cx]
        rw [ew] at nx
        subst cx
        have HN : Hid (∀ j u, [Value.int .i64 4611686018427387904][j]? = some u → (wr.alloc (.cells #[.int .i64 4611686018427387904] 2)).cell? ((⟨wr.heap.size, 0, none⟩ : Addr).add j) = some u) := by
          intro j u hj
          match j, hj with
          | 0, hj => simp at hj; subst hj; simp [Addr.add]
        go_wp2_with (at_builtin; refine wpList_append_own _ rfl _ _ 74 rfl w.heap.size 2 i0 (.int .i64 0) 1 8 Try.underlying74 hi0 hz0 hz1 hz2 rfl (by decide) _ k ((wideL l k).map (Value.int .i64)) rfl (hown.out.alloc _) ⟨wr.heap.size, 0, none⟩ 1 1 [.int .i64 4611686018427387904] rfl rfl HN.out (fun u hu => by simp at hu; subst hu; rfl) (by unfold maxLen; omega) (by omega) (by simp; omega) ?_; intro v' w1 hown' hgrow hnil)
        have hb1 : Below w.heap.size w w1 := (hB.out.alloc hsz _).grown hgrow (by simp; omega) (by intro q hq; exact (hown.out.lt q hq).1)
        have ho := hideD hown'
        have hb2 := hideD hb1
        have nx' : Hid (w1.ownsRow w.heap.size 2 1 v' (k + 1) ((wideL l (k + 1)).map (Value.int .i64))) := by
          show w1.ownsRow _ _ _ _ _ _
          rw [nx.out, List.map_append]
          exact ho.out
        clear hown' hgrow hnil hb1 ho nx hown HN
        go_wp2_with fail
        go_roundw
        case rel => exact ⟨k + 1, by omega, by go_num, nx', hb2⟩
        case measure => simp [intOf]; omega
      · have ew : wideV x = x := by simp [wideV, cx]
        rw [ew] at nx
        have ex : wrap64 x = x := by unfold wrap64; omega
        have cx' : (x == 2147483647) = false := by simpa using cx
        have HN : Hid (∀ j u, [Value.int .i64 x][j]? = some u → (wr.alloc (.cells #[.int .i64 x] 2)).cell? ((⟨wr.heap.size, 0, none⟩ : Addr).add j) = some u) := by
          intro j u hj
          match j, hj with
          | 0, hj => simp at hj; subst hj; simp [Addr.add]
        go_wp2_with (at_builtin; refine wpList_append_own _ rfl _ _ 74 rfl w.heap.size 2 i0 (.int .i64 0) 1 8 Try.underlying74 hi0 hz0 hz1 hz2 rfl (by decide) _ k ((wideL l k).map (Value.int .i64)) rfl (hown.out.alloc _) ⟨wr.heap.size, 0, none⟩ 1 1 [.int .i64 x] rfl rfl HN.out (fun u hu => by simp at hu; subst hu; rfl) (by unfold maxLen; omega) (by omega) (by simp; omega) ?_; intro v' w1 hown' hgrow hnil)
        have hb1 : Below w.heap.size w w1 := (hB.out.alloc hsz _).grown hgrow (by simp; omega) (by intro q hq; exact (hown.out.lt q hq).1)
        have ho := hideD hown'
        have hb2 := hideD hb1
        have nx' : Hid (w1.ownsRow w.heap.size 2 1 v' (k + 1) ((wideL l (k + 1)).map (Value.int .i64))) := by
          show w1.ownsRow _ _ _ _ _ _
          rw [nx.out, List.map_append]
          exact ho.out
        clear hown' hgrow hnil hb1 ho nx hown HN
        go_wp2_with fail
        go_roundw
        case rel => exact ⟨k + 1, by omega, by go_num, nx', hb2⟩
        case measure => simp [intOf]; omega
    · have st : Hid (k = l.length) := by show k = _; omega
      go_wp2_with fail
      go_ret
      refine ⟨_, rfl, ?_, hB.out⟩
      have e := st.out
      subst e
      exact hown.out
end Go.Proofs.Ytnfkmpickmonoaa
