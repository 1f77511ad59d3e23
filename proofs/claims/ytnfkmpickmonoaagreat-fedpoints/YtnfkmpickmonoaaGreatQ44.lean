/-
  point.keeps, mayPass, Right.
-/
import Derived.Test.YtnfkmpickmonoaaGreatQ43
namespace Go.Proofs.YtnfkmpickmonoaaGreat
open Go.RowKit Go.Shelf
set_option linter.unusedVariables false
set_option maxRecDepth 100000
theorem keeps_none (at' : Value) (i j b : Int) (w : World) (HV : Hid (∀ w, Calls Tryz.prog 104 #[.int .i32 b] w fun e w' => e = .returned (.tuple #[.int .i64 0, .bool false, .bool false]) ∧ w' = w)) :
    Calls Tryz.prog 76 #[at', .agg #[.int .i64 i, .int .i64 j, .int .i32 b]] w fun e w' => e = .returned (.bool true) ∧ Below w.heap.size w w' := by
  have B0 := hideR (single w (.cells #[.int .i64 i, .int .i64 j, .int .i32 b] 90))
  go_enter Tryz.func76, Tryz.ntmps76
  go_wp2_with (go_at_call 104; refine (HV.out _).mono ?_; rintro e w' ⟨rfl, rfl⟩)
  go_ret
  exact ⟨rfl, B0.out⟩
set_option maxHeartbeats 1000000 in
theorem keeps_some (g off q cap i j : Nat) (an ad bn bd b N G : Int) (r t : Bool) (w : World) (c0 : w.cell? ⟨g, off + i * 2, none⟩ = some (.int .i64 an)) (c1 : w.cell? ⟨g, off + i * 2 + 1, none⟩ = some (.int .i64 ad)) (c2 : w.cell? ⟨g, off + j * 2, none⟩ = some (.int .i64 bn)) (c3 : w.cell? ⟨g, off + j * 2 + 1, none⟩ = some (.int .i64 bd))
    (hi : i < q) (hj : j < q) (HV : Hid (∀ w, Calls Tryz.prog 104 #[.int .i32 b] w fun e w' => e = .returned (.tuple #[.int .i64 N, .bool r, .bool true]) ∧ w' = w))
    (HG : Hid (∀ w, Calls Tryz.prog 105 #[rv an ad, rv bn bd, .int .i64 N] w fun e w' => e = .returned (.int .i64 G) ∧ Below w.heap.size w w'))
    (hG : (decide (G < 0) = true ∧ t = true) ∨ (decide (G < 0) = false ∧ (G == 0) = true ∧ t = r) ∨ (decide (G < 0) = false ∧ (G == 0) = false ∧ t = false)) :
    Calls Tryz.prog 76 #[.slice (some ⟨g, off, none⟩) q cap, .agg #[.int .i64 i, .int .i64 j, .int .i32 b]] w fun e w' => e = .returned (.bool t) ∧ Below w.heap.size w w' := by
  have B0 := single w (.cells #[.int .i64 i, .int .i64 j, .int .i32 b] 90)
  have hi' : (i : Int) < (q : Int) := by omega
  have hj' : (j : Int) < (q : Int) := by omega
  have HGG := hideR hG
  clear hG
  go_enter Tryz.func76, Tryz.ntmps76
  go_upto_region 4 with (go_at_call 104; refine (HV.out _).mono ?_; rintro e w' ⟨rfl, rfl⟩)
  have d0 := kc _ _ B0 c0
  have d1 := kc _ _ B0 c1
  have d2 := kc _ _ B0 c2
  have d3 := kc _ _ B0 c3
  have d4 : (w.alloc (.cells #[.int .i64 i, .int .i64 j, .int .i32 b] 90)).cell? ⟨w.heap.size, 0, none⟩ = some (.int .i64 i) := by simp [go_sem]
  have d5 : (w.alloc (.cells #[.int .i64 i, .int .i64 j, .int .i32 b] 90)).cell? ⟨w.heap.size, 1, none⟩ = some (.int .i64 j) := by simp [go_sem]
  have B1 := hideR B0
  clear B0 c0 c1 c2 c3 HV
  generalize w.alloc (.cells #[.int .i64 i, .int .i64 j, .int .i32 b] 90) = W at *
  have B2 := Below.refl W.heap.size W
  go_region_held3 (fun w' => w'.cell? ⟨w.heap.size, 0, none⟩ = some (.int .i64 i) ∧ w'.cell? ⟨w.heap.size, 1, none⟩ = some (.int .i64 j) ∧ w'.cell? ⟨g, off + i * 2, none⟩ = some (.int .i64 an) ∧ w'.cell? ⟨g, off + i * 2 + 1, none⟩ = some (.int .i64 ad) ∧ w'.cell? ⟨g, off + j * 2, none⟩ = some (.int .i64 bn) ∧ w'.cell? ⟨g, off + j * 2 + 1, none⟩ = some (.int .i64 bd))
    (first | (refine ⟨?_, ?_, ?_, ?_, ?_, ?_⟩ <;> (first | with_reducible assumption | assumption)) | go_keep)
    (first | (go_at_call 105; refine (HG.out _).mono ?_; rintro e w' ⟨rfl, hb⟩; have s4 := beyond (w := W) (by first | assumption | (apply Below.drew; assumption)) hb; have s0 := kc ⟨w.heap.size, 0, none⟩ (.int .i64 i) hb (by first | assumption | simp [go_sem, *]); have s1 := kc ⟨w.heap.size, 1, none⟩ (.int .i64 j) hb (by first | assumption | simp [go_sem, *]); have s2 := kc ⟨g, off + i * 2, none⟩ (.int .i64 an) hb (by first | assumption | simp [go_sem, *]); have s3 := kc ⟨g, off + i * 2 + 1, none⟩ (.int .i64 ad) hb (by first | assumption | simp [go_sem, *]); have s5 := kc ⟨g, off + j * 2, none⟩ (.int .i64 bn) hb (by first | assumption | simp [go_sem, *]); have s6 := kc ⟨g, off + j * 2 + 1, none⟩ (.int .i64 bd) hb (by first | assumption | simp [go_sem, *])))
  all_goals
    have S4 := hideR (beyond B1.out s4)
    clear s4 s0 s1 s2 s3 s5 s6 hb B2 d0 d1 d2 d3 d4 d5
    rcases HGG.out with ⟨h1, rfl⟩ | ⟨h1, h2, rfl⟩ | ⟨h1, h2, rfl⟩
    · have h1' := of_decide_eq_true h1
      go_wp2_with fail
      go_ret
      exact ⟨rfl, S4.out⟩
    · go_wp2_with fail
      go_ret
      exact ⟨rfl, S4.out⟩
    · go_wp2_with fail
      go_ret
      exact ⟨rfl, S4.out⟩
theorem keepsP_any (g off q cap i j : Nat) (an ad bn bd b : Int) (w : World) (c0 : w.cell? ⟨g, off + i * 2, none⟩ = some (.int .i64 an)) (c1 : w.cell? ⟨g, off + i * 2 + 1, none⟩ = some (.int .i64 ad)) (c2 : w.cell? ⟨g, off + j * 2, none⟩ = some (.int .i64 bn)) (c3 : w.cell? ⟨g, off + j * 2 + 1, none⟩ = some (.int .i64 bd))
    (hi : i < q) (hj : j < q) (ha : I64 an) (hb : I64 ad) (hc : I64 bn) (hd : I64 bd) (oa : okR an ad = true) (ob : okR bn bd = true) :
    Calls Tryz.prog 76 #[.slice (some ⟨g, off, none⟩) q cap, .agg #[.int .i64 i, .int .i64 j, .int .i32 b]] w fun e w' => e = .returned (.bool (keepB b an ad bn bd)) ∧ Below w.heap.size w w' := by
  cases f : finB b
  · have e1 : keepB b an ad bn bd = true := by simp [keepB, f]
    rw [e1]
    refine keeps_none _ _ _ _ w (fun w => ?_)
    have := value_any b w
    rw [show valV b = 0 by simp [valV, f], show valR b = false by simp [valR, f], f] at this
    exact this
  · refine keeps_some g off q cap i j an ad bn bd b (valV b) (gapV an ad bn bd (valV b)) (valR b) _ w c0 c1 c2 c3 hi hj (fun w => ?_) (fun w => gapP_any an ad bn bd (valV b) w ha hb hc hd oa ob) ?_
    · have := value_any b w
      rw [f] at this
      exact this
    · unfold keepB
      rw [f]
      generalize gapV an ad bn bd (valV b) = G
      by_cases h1 : G < 0
      · exact .inl ⟨decide_eq_true h1, by simp [h1]⟩
      · by_cases h2 : G = 0
        · exact .inr (.inl ⟨decide_eq_false h1, by simp [h2], by simp [h2]⟩)
        · exact .inr (.inr ⟨decide_eq_false h1, by simp [h2], by simp [h1, h2]⟩)
end Go.Proofs.YtnfkmpickmonoaaGreat
